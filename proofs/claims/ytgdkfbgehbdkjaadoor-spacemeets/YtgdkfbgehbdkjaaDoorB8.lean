/- The walks of Basis, Normal, Join, Meet and Has. -/
import Derived.Test.YtgdkfbgehbdkjaaDoorB7
import Derived.Test.YtgdkfbgehbdkjaaDoorSpX
namespace Go.Proofs.YtgdkfbgehbdkjaaDoor
open Go.RowKit

/-- What open answers in each later world. -/
def OpC (p k n : Int) (v : Value) (vs : List Value) (rss : List (List (List Int))) (w : World) (z : Int) (rv : Value) : Prop := ∀ W u, Below w.heap.size w W → LsR W u vs rss → Calls Tryd.prog 26 #[.agg #[.int .i64 p, .int .i64 k, v], .int .i64 n, u] W fun e w' => OpA z rv e ∧ Below W.heap.size W w'
theorem opc_fault {p k n z : Int} {l : List Int} {v : Value} {w : World} (hT : Fd.Tab w) (hl : Fd.Sl w v l) (hll : l.length ≤ maxLen) (hz : Fd.FaultIs p k l z) (h0 : z ≠ 0) (vs : List Value) (rss : List (List (List Int))) (rv : Value) : OpC p k n v vs rss w z rv :=
  fun W u b _ => open_fault p k n z l v u rv W (hT.below b) (hl.below b) hll hz h0
theorem opc_far {P K : Nat} {n : Int} {l : List Int} {v : Value} {w : World} (hF : Fld P K l v w) (hn : ¬ (1 ≤ n ∧ n ≤ 6)) (vs : List Value) (rss : List (List (List Int))) (rv : Value) : OpC P K n v vs rss w 1 rv :=
  fun W u b _ => open_far P K n l v u rv W (hF.below b) hn
theorem opc_full {P K n : Nat} {l : List Int} {v : Value} {w : World} (hF : Fld P K l v w) (h1 : 1 ≤ n) (h6 : n ≤ 6) (hf : 4096 < (P ^ K) ^ n) (vs : List Value) (rss : List (List (List Int))) (rv : Value) : OpC P K n v vs rss w 3 rv :=
  fun W u b _ => open_full P K n l v u rv W (hF.below b) h1 h6 hf
theorem opc_rows {P K n : Nat} {l : List Int} {v : Value} {w : World} (hF : Fld P K l v w) (h1 : 1 ≤ n) (h6 : n ≤ 6) (hf : (P ^ K) ^ n ≤ 4096) (vs : List Value) (rss : List (List (List Int))) (hm : rss.length ≤ 2) {z : Nat} (hz : lsE (P ^ K) n rss = z) : OpC P K n v vs rss w z (rmV P K v n) :=
  fun W u b hu => open_rows P K n l v u vs rss W (hF.below b) h1 h6 hf hu hm z hz
/-- Rows as they come. -/
structure RwC (w : World) (u : Value) (rs : List (List Int)) : Prop where
  rw : Rw w u rs
  len : rs.length ≤ maxLen
  all : ∀ r ∈ rs, r.length ≤ maxLen
theorem RwC.below {w w' : World} {u : Value} {rs : List (List Int)} (h : RwC w u rs) (b : Below w.heap.size w w') : RwC w' u rs := ⟨h.rw.below b, h.len, h.all⟩
theorem RwC.form {w : World} {u : Value} {rs : List (List Int)} (h : RwC w u rs) : ∃ a m c, u = .slice a m c ∧ Hid (rs.length = m) := by
  obtain ⟨a, c, e, _⟩ := h.rw
  exact ⟨a, _, c, e, rfl⟩
set_option maxRecDepth 100000 in
set_option maxHeartbeats 4000000 in
theorem Basis_err (p k n z : Int) (v u : Value) (rs : List (List Int)) (rv : Value) (w : World) (hv : ∃ a m c, v = .slice a m c) (hu : RwC w u rs) (hO : OpC p k n v [u] [rs] w z rv) (h0 : z ≠ 0) :
    Calls Tryd.prog 10 #[.agg #[.int .i64 p, .int .i64 k, v], .int .i64 n, u] w fun e w' => e = .returned (.tuple #[.slice none 0 0, .int .i64 z]) ∧ Below w.heap.size w w' := by
  obtain ⟨fa, fn, fc, rfl⟩ := hv
  have b1 := balloc w (.cells #[.int .i64 p, .int .i64 k, .slice fa fn fc] 24)
  obtain ⟨x0, x1, x2⟩ := fl_box p k (.slice fa fn fc) w _ (Below.refl _ _)
  have hL := ls_one (hu.rw.below b1) hu.len hu.all
  have b2 := Below.next b1 (balloc (w.alloc (.cells #[.int .i64 p, .int .i64 k, .slice fa fn fc] 24)) (.cells #[u] 25))
  have hs1 : (w.alloc (.cells #[.int .i64 p, .int .i64 k, .slice fa fn fc] 24)).heap.size = w.heap.size + 1 := by simp
  rw [hs1] at hL
  have C := hO _ _ b2 hL
  obtain ⟨ua, um, uc, rfl, Hum⟩ := hu.form
  have hne : (z != 0) = true := by simpa using h0
  obtain ⟨W1, HW1⟩ : ∃ W1, Hid ((w.alloc (.cells #[.int .i64 p, .int .i64 k, .slice fa fn fc] 24)).alloc (.cells #[.slice ua um uc] 25) = W1) := ⟨_, rfl⟩
  rw [HW1.out] at b2 C
  clear hL hO hu
  go_enter Tryd.func10, Tryd.ntmps10
  go_wp2_with (first
    | (go_at_call 26; rw [HW1.out]; refine C.mono ?_; rintro e w1 ⟨⟨rp, rk, rn, ra, rm, rc, rfl, _⟩, b3⟩; clear C)
    | (refine wpList_store_row rfl 50 _ _ rfl w1.heap.size (rmC rp rk (.slice ra rm rc) rn) rfl rfl 50 _ (rm_made w1) (inf50 _ _ _ _) rfl (rmC_one _ _ _ _ _ _) ?_; have b5 : Below w.heap.size w ((w1.alloc (.cells #[.int .i64 0, .int .i64 0, .slice none 0 0, .int .i64 0] 50)).setRow w1.heap.size (rmC rp rk (.slice ra rm rc) rn)) := Fd.bsetRow ((Below.next b2 b3).alloc (Below.next b2 b3).size _) (Below.next b2 b3).size _; revert b5; generalize ((w1.alloc (.cells #[.int .i64 0, .int .i64 0, .slice none 0 0, .int .i64 0] 50)).setRow w1.heap.size (rmC rp rk (.slice ra rm rc) rn)) = W2; intro b5))
  go_ret2
  exact ⟨rfl, b5⟩
set_option maxRecDepth 100000 in
set_option maxHeartbeats 4000000 in
theorem Normal_err (p k n z : Int) (v u : Value) (rs : List (List Int)) (rv : Value) (w : World) (hv : ∃ a m c, v = .slice a m c) (hu : RwC w u rs) (hO : OpC p k n v [u] [rs] w z rv) (h0 : z ≠ 0) :
    Calls Tryd.prog 11 #[.agg #[.int .i64 p, .int .i64 k, v], .int .i64 n, u] w fun e w' => e = .returned (.tuple #[.slice none 0 0, .int .i64 z]) ∧ Below w.heap.size w w' := by
  obtain ⟨fa, fn, fc, rfl⟩ := hv
  have b1 := balloc w (.cells #[.int .i64 p, .int .i64 k, .slice fa fn fc] 24)
  obtain ⟨x0, x1, x2⟩ := fl_box p k (.slice fa fn fc) w _ (Below.refl _ _)
  have hL := ls_one (hu.rw.below b1) hu.len hu.all
  have b2 := Below.next b1 (balloc (w.alloc (.cells #[.int .i64 p, .int .i64 k, .slice fa fn fc] 24)) (.cells #[u] 25))
  have hs1 : (w.alloc (.cells #[.int .i64 p, .int .i64 k, .slice fa fn fc] 24)).heap.size = w.heap.size + 1 := by simp
  rw [hs1] at hL
  have C := hO _ _ b2 hL
  obtain ⟨ua, um, uc, rfl, Hum⟩ := hu.form
  have hne : (z != 0) = true := by simpa using h0
  obtain ⟨W1, HW1⟩ : ∃ W1, Hid ((w.alloc (.cells #[.int .i64 p, .int .i64 k, .slice fa fn fc] 24)).alloc (.cells #[.slice ua um uc] 25) = W1) := ⟨_, rfl⟩
  rw [HW1.out] at b2 C
  clear hL hO hu
  go_enter Tryd.func11, Tryd.ntmps11
  go_wp2_with (first
    | (go_at_call 26; rw [HW1.out]; refine C.mono ?_; rintro e w1 ⟨⟨rp, rk, rn, ra, rm, rc, rfl, _⟩, b3⟩; clear C)
    | (refine wpList_store_row rfl 50 _ _ rfl w1.heap.size (rmC rp rk (.slice ra rm rc) rn) rfl rfl 50 _ (rm_made w1) (inf50 _ _ _ _) rfl (rmC_one _ _ _ _ _ _) ?_; have b5 : Below w.heap.size w ((w1.alloc (.cells #[.int .i64 0, .int .i64 0, .slice none 0 0, .int .i64 0] 50)).setRow w1.heap.size (rmC rp rk (.slice ra rm rc) rn)) := Fd.bsetRow ((Below.next b2 b3).alloc (Below.next b2 b3).size _) (Below.next b2 b3).size _; revert b5; generalize ((w1.alloc (.cells #[.int .i64 0, .int .i64 0, .slice none 0 0, .int .i64 0] 50)).setRow w1.heap.size (rmC rp rk (.slice ra rm rc) rn)) = W2; intro b5))
  go_ret2
  exact ⟨rfl, b5⟩
set_option maxRecDepth 100000 in
set_option maxHeartbeats 4000000 in
theorem Join_err (p k n z : Int) (v u x : Value) (rs ss : List (List Int)) (rv : Value) (w : World) (hv : ∃ a m c, v = .slice a m c) (hu : RwC w u rs) (hx : RwC w x ss) (hO : OpC p k n v [u, x] [rs, ss] w z rv) (h0 : z ≠ 0) :
    Calls Tryd.prog 19 #[.agg #[.int .i64 p, .int .i64 k, v], .int .i64 n, u, x] w fun e w' => e = .returned (.tuple #[.slice none 0 0, .int .i64 z]) ∧ Below w.heap.size w w' := by
  obtain ⟨fa, fn, fc, rfl⟩ := hv
  have b1 := balloc w (.cells #[.int .i64 p, .int .i64 k, .slice fa fn fc] 24)
  obtain ⟨x0, x1, x2⟩ := fl_box p k (.slice fa fn fc) w _ (Below.refl _ _)
  have hL := ls_two (hu.rw.below b1) hu.len hu.all (hx.rw.below b1) hx.len hx.all
  have b2 := Below.next b1 (balloc (w.alloc (.cells #[.int .i64 p, .int .i64 k, .slice fa fn fc] 24)) (.cells #[u, x] 25))
  have hs1 : (w.alloc (.cells #[.int .i64 p, .int .i64 k, .slice fa fn fc] 24)).heap.size = w.heap.size + 1 := by simp
  rw [hs1] at hL
  have C := hO _ _ b2 hL
  obtain ⟨ua, um, uc, rfl, Hum⟩ := hu.form
  obtain ⟨xa, xm, xc, rfl, Hxm⟩ := hx.form
  have hne : (z != 0) = true := by simpa using h0
  obtain ⟨W1, HW1⟩ : ∃ W1, Hid ((w.alloc (.cells #[.int .i64 p, .int .i64 k, .slice fa fn fc] 24)).alloc (.cells #[.slice ua um uc, .slice xa xm xc] 25) = W1) := ⟨_, rfl⟩
  rw [HW1.out] at b2 C
  clear hL hO hu hx
  go_enter Tryd.func19, Tryd.ntmps19
  go_wp2_with (first
    | (go_at_call 26; rw [HW1.out]; refine C.mono ?_; rintro e w1 ⟨⟨rp, rk, rn, ra, rm, rc, rfl, _⟩, b3⟩; clear C)
    | (refine wpList_store_row rfl 50 _ _ rfl w1.heap.size (rmC rp rk (.slice ra rm rc) rn) rfl rfl 50 _ (rm_made w1) (inf50 _ _ _ _) rfl (rmC_one _ _ _ _ _ _) ?_; have b5 : Below w.heap.size w ((w1.alloc (.cells #[.int .i64 0, .int .i64 0, .slice none 0 0, .int .i64 0] 50)).setRow w1.heap.size (rmC rp rk (.slice ra rm rc) rn)) := Fd.bsetRow ((Below.next b2 b3).alloc (Below.next b2 b3).size _) (Below.next b2 b3).size _; revert b5; generalize ((w1.alloc (.cells #[.int .i64 0, .int .i64 0, .slice none 0 0, .int .i64 0] 50)).setRow w1.heap.size (rmC rp rk (.slice ra rm rc) rn)) = W2; intro b5))
  go_ret2
  exact ⟨rfl, b5⟩
set_option maxRecDepth 100000 in
set_option maxHeartbeats 4000000 in
theorem Meet_err (p k n z : Int) (v u x : Value) (rs ss : List (List Int)) (rv : Value) (w : World) (hv : ∃ a m c, v = .slice a m c) (hu : RwC w u rs) (hx : RwC w x ss) (hO : OpC p k n v [u, x] [rs, ss] w z rv) (h0 : z ≠ 0) :
    Calls Tryd.prog 20 #[.agg #[.int .i64 p, .int .i64 k, v], .int .i64 n, u, x] w fun e w' => e = .returned (.tuple #[.slice none 0 0, .int .i64 z]) ∧ Below w.heap.size w w' := by
  obtain ⟨fa, fn, fc, rfl⟩ := hv
  have b1 := balloc w (.cells #[.int .i64 p, .int .i64 k, .slice fa fn fc] 24)
  obtain ⟨x0, x1, x2⟩ := fl_box p k (.slice fa fn fc) w _ (Below.refl _ _)
  have hL := ls_two (hu.rw.below b1) hu.len hu.all (hx.rw.below b1) hx.len hx.all
  have b2 := Below.next b1 (balloc (w.alloc (.cells #[.int .i64 p, .int .i64 k, .slice fa fn fc] 24)) (.cells #[u, x] 25))
  have hs1 : (w.alloc (.cells #[.int .i64 p, .int .i64 k, .slice fa fn fc] 24)).heap.size = w.heap.size + 1 := by simp
  rw [hs1] at hL
  have C := hO _ _ b2 hL
  obtain ⟨ua, um, uc, rfl, Hum⟩ := hu.form
  obtain ⟨xa, xm, xc, rfl, Hxm⟩ := hx.form
  have hne : (z != 0) = true := by simpa using h0
  obtain ⟨W1, HW1⟩ : ∃ W1, Hid ((w.alloc (.cells #[.int .i64 p, .int .i64 k, .slice fa fn fc] 24)).alloc (.cells #[.slice ua um uc, .slice xa xm xc] 25) = W1) := ⟨_, rfl⟩
  rw [HW1.out] at b2 C
  clear hL hO hu hx
  go_enter Tryd.func20, Tryd.ntmps20
  go_wp2_with (first
    | (go_at_call 26; rw [HW1.out]; refine C.mono ?_; rintro e w1 ⟨⟨rp, rk, rn, ra, rm, rc, rfl, _⟩, b3⟩; clear C)
    | (refine wpList_store_row rfl 50 _ _ rfl w1.heap.size (rmC rp rk (.slice ra rm rc) rn) rfl rfl 50 _ (rm_made w1) (inf50 _ _ _ _) rfl (rmC_one _ _ _ _ _ _) ?_; have b5 : Below w.heap.size w ((w1.alloc (.cells #[.int .i64 0, .int .i64 0, .slice none 0 0, .int .i64 0] 50)).setRow w1.heap.size (rmC rp rk (.slice ra rm rc) rn)) := Fd.bsetRow ((Below.next b2 b3).alloc (Below.next b2 b3).size _) (Below.next b2 b3).size _; revert b5; generalize ((w1.alloc (.cells #[.int .i64 0, .int .i64 0, .slice none 0 0, .int .i64 0] 50)).setRow w1.heap.size (rmC rp rk (.slice ra rm rc) rn)) = W2; intro b5))
  go_ret2
  exact ⟨rfl, b5⟩
set_option maxRecDepth 100000 in
set_option maxHeartbeats 4000000 in
theorem Has_err (p k n z : Int) (v u y : Value) (rs : List (List Int)) (rv : Value) (w : World) (hv : ∃ a m c, v = .slice a m c) (hu : RwC w u rs) (hy : ∃ a m c, y = .slice a m c) (hO : OpC p k n v [u] [rs] w z rv) (h0 : z ≠ 0) :
    Calls Tryd.prog 12 #[.agg #[.int .i64 p, .int .i64 k, v], .int .i64 n, u, y] w fun e w' => e = .returned (.tuple #[.bool false, .int .i64 z]) ∧ Below w.heap.size w w' := by
  obtain ⟨fa, fn, fc, rfl⟩ := hv
  have b1 := balloc w (.cells #[.int .i64 p, .int .i64 k, .slice fa fn fc] 24)
  obtain ⟨x0, x1, x2⟩ := fl_box p k (.slice fa fn fc) w _ (Below.refl _ _)
  have hL := ls_one (hu.rw.below b1) hu.len hu.all
  have b2 := Below.next b1 (balloc (w.alloc (.cells #[.int .i64 p, .int .i64 k, .slice fa fn fc] 24)) (.cells #[u] 25))
  have hs1 : (w.alloc (.cells #[.int .i64 p, .int .i64 k, .slice fa fn fc] 24)).heap.size = w.heap.size + 1 := by simp
  rw [hs1] at hL
  have C := hO _ _ b2 hL
  obtain ⟨ua, um, uc, rfl, Hum⟩ := hu.form
  obtain ⟨ya, ym, yc, rfl⟩ := hy
  have hne : (z != 0) = true := by simpa using h0
  obtain ⟨W1, HW1⟩ : ∃ W1, Hid ((w.alloc (.cells #[.int .i64 p, .int .i64 k, .slice fa fn fc] 24)).alloc (.cells #[.slice ua um uc] 25) = W1) := ⟨_, rfl⟩
  rw [HW1.out] at b2 C
  clear hL hO hu
  go_enter Tryd.func12, Tryd.ntmps12
  go_wp2_with (first
    | (go_at_call 26; rw [HW1.out]; refine C.mono ?_; rintro e w1 ⟨⟨rp, rk, rn, ra, rm, rc, rfl, _⟩, b3⟩; clear C)
    | (refine wpList_store_row rfl 50 _ _ rfl w1.heap.size (rmC rp rk (.slice ra rm rc) rn) rfl rfl 50 _ (rm_made w1) (inf50 _ _ _ _) rfl (rmC_one _ _ _ _ _ _) ?_; have b5 : Below w.heap.size w ((w1.alloc (.cells #[.int .i64 0, .int .i64 0, .slice none 0 0, .int .i64 0] 50)).setRow w1.heap.size (rmC rp rk (.slice ra rm rc) rn)) := Fd.bsetRow ((Below.next b2 b3).alloc (Below.next b2 b3).size _) (Below.next b2 b3).size _; revert b5; generalize ((w1.alloc (.cells #[.int .i64 0, .int .i64 0, .slice none 0 0, .int .i64 0] 50)).setRow w1.heap.size (rmC rp rk (.slice ra rm rc) rn)) = W2; intro b5))
  go_ret2
  exact ⟨rfl, b5⟩
theorem rm_inj {rp rk rn p k n : Int} {ra fa : Option Addr} {rm rc fn fc : Nat} (h : Value.agg #[.int .i64 rp, .int .i64 rk, .slice ra rm rc, .int .i64 rn] = Value.agg #[.int .i64 p, .int .i64 k, .slice fa fn fc, .int .i64 n]) : rp = p ∧ rk = k ∧ (ra = fa ∧ rm = fn ∧ rc = fc) ∧ rn = n := by
  simpa using h
/-- A basis, and no error. -/
def BaR (q : Nat) (ad mu : Nat → Nat → Nat) (n : Nat) (V : List Nat → Prop) (e : Ending) (w' : World) : Prop := ∃ x ls, e = .returned (.tuple #[x, .int .i64 0]) ∧ BasIs q ad mu n V ls ∧ Rw w' x (toZ ls)
set_option maxRecDepth 100000 in
set_option maxHeartbeats 16000000 in
theorem Basis_ok (P K n : Nat) (l : List Int) (v u : Value) (A : List (List Nat)) (w : World) (hF : Fld P K l v w) (hu : Rw w u (toZ A)) (hA : Rws (P ^ K) n A) (hAl : A.length ≤ 12) (h1 : 1 ≤ n) (hn : n ≤ 6) (hO : OpC P K n v [u] [toZ A] w 0 (rmV P K v n)) :
    Calls Tryd.prog 10 #[.agg #[.int .i64 (P : Int), .int .i64 (K : Int), v], .int .i64 (n : Int), u] w fun e w' => BaR (P ^ K) (adF P K) (muF P K l) n (Spn (P ^ K) (adF P K) (muF P K l) n A) e w' ∧ Below w.heap.size w w' := by
  have hfq := hF.fqr
  have HBas : Hid (∀ (W : World) (y : Value) (Y : List (List Nat)), Below w.heap.size w W → Rw W y (toZ Y) → Rws (P ^ K) n Y → Y.length ≤ 24 → Calls Tryd.prog 27 #[rmV P K v n, y] W fun e w' => BaA (P ^ K) (adF P K) (muF P K l) n Y e w' ∧ Below W.heap.size W w') := fun W y Y b hy hY hl => basis_any P K n l v y Y W (hF.below b) hy hY h1 hn hl
  have HA : Hid (Rws (P ^ K) n A) := hA
  obtain ⟨fa, fn, fc, rfl⟩ : ∃ fa fn fc, v = .slice fa fn fc := by obtain ⟨a, c, e, _⟩ := hF.sl; exact ⟨a, _, c, e⟩
  have b1 := balloc w (.cells #[.int .i64 (P : Int), .int .i64 (K : Int), .slice fa fn fc] 24)
  obtain ⟨x0, x1, x2⟩ := fl_box (P : Int) (K : Int) (.slice fa fn fc) w _ (Below.refl _ _)
  have hL := ls_one (hu.below b1) (by rw [toZ_len]; exact len_max (by omega)) (toZ_max hA hn)
  have b2 := Below.next b1 (balloc (w.alloc (.cells #[.int .i64 (P : Int), .int .i64 (K : Int), .slice fa fn fc] 24)) (.cells #[u] 25))
  have hs1 : (w.alloc (.cells #[.int .i64 (P : Int), .int .i64 (K : Int), .slice fa fn fc] 24)).heap.size = w.heap.size + 1 := by simp
  rw [hs1] at hL
  have C := hO _ _ b2 hL
  have Hu : Hid (∀ W, Below w.heap.size w W → Rw W u (toZ A)) := fun W b => hu.below b
  obtain ⟨ua, um, uc, rfl, Hum⟩ := rw_formH hu
  obtain ⟨W1, HW1⟩ : ∃ W1, Hid ((w.alloc (.cells #[.int .i64 (P : Int), .int .i64 (K : Int), .slice fa fn fc] 24)).alloc (.cells #[.slice ua um uc] 25) = W1) := ⟨_, rfl⟩
  rw [HW1.out] at b2 C
  clear hL hO hfq hF hu
  go_enter Tryd.func10, Tryd.ntmps10
  go_wp2_with (first
    | (go_at_call 26; rw [HW1.out]; refine C.mono ?_; rintro e w1 ⟨⟨rp, rk, rn, ra, rm, rc, rfl, hrv⟩, b3⟩; obtain ⟨rfl, rfl, ⟨rfl, rfl, rfl⟩, rfl⟩ : rp = (P : Int) ∧ rk = (K : Int) ∧ (ra = fa ∧ rm = fn ∧ rc = fc) ∧ rn = (n : Int) := rm_inj (hrv rfl); have r2 : RmB (w1.alloc (.cells #[.int .i64 (P : Int), .int .i64 (K : Int), .slice ra rm rc, .int .i64 (n : Int)] 50)) w1.heap.size (P : Int) (K : Int) (.slice ra rm rc) (n : Int) := heap_alloc_new w1 _; have b5 : Below w.heap.size w (w1.alloc (.cells #[.int .i64 (P : Int), .int .i64 (K : Int), .slice ra rm rc, .int .i64 (n : Int)] 50)) := Below.next (Below.next b2 b3) (balloc w1 _); obtain ⟨c0, c1, c2, c3⟩ := r2.cells; clear C hrv)
    | (go_at_call 27; refine (HBas.out _ _ A b5 (Hu.out _ b5) HA.out (by omega)).mono ?_; rintro e w3 ⟨⟨y, Y, rfl, hY, hy⟩, b6⟩))
  go_ret2
  exact ⟨⟨_, _, rfl, hY, hy⟩, Below.next b5 b6⟩
set_option maxRecDepth 100000 in
set_option maxHeartbeats 16000000 in
theorem Normal_ok (P K n : Nat) (l : List Int) (v u : Value) (A : List (List Nat)) (w : World) (hF : Fld P K l v w) (hu : Rw w u (toZ A)) (hA : Rws (P ^ K) n A) (hAl : A.length ≤ 12) (h1 : 1 ≤ n) (hn : n ≤ 6) (hO : OpC P K n v [u] [toZ A] w 0 (rmV P K v n)) :
    Calls Tryd.prog 11 #[.agg #[.int .i64 (P : Int), .int .i64 (K : Int), v], .int .i64 (n : Int), u] w fun e w' => BaR (P ^ K) (adF P K) (muF P K l) n (Nrm (P ^ K) (adF P K) (muF P K l) n A) e w' ∧ Below w.heap.size w w' := by
  have hfq := hF.fqr
  have HNor : Hid (∀ (W : World) (y : Value) (Y : List (List Nat)), Below w.heap.size w W → Rw W y (toZ Y) → Rws (P ^ K) n Y → Y.length ≤ 24 → Calls Tryd.prog 28 #[rmV P K v n, y] W fun e w' => NoA (P ^ K) (adF P K) (muF P K l) n Y e w' ∧ Below W.heap.size W w') := fun W y Y b hy hY hl => normal_any P K n l v y Y W (hF.below b) hy hY h1 hn hl
  have HA : Hid (Rws (P ^ K) n A) := hA
  obtain ⟨fa, fn, fc, rfl⟩ : ∃ fa fn fc, v = .slice fa fn fc := by obtain ⟨a, c, e, _⟩ := hF.sl; exact ⟨a, _, c, e⟩
  have b1 := balloc w (.cells #[.int .i64 (P : Int), .int .i64 (K : Int), .slice fa fn fc] 24)
  obtain ⟨x0, x1, x2⟩ := fl_box (P : Int) (K : Int) (.slice fa fn fc) w _ (Below.refl _ _)
  have hL := ls_one (hu.below b1) (by rw [toZ_len]; exact len_max (by omega)) (toZ_max hA hn)
  have b2 := Below.next b1 (balloc (w.alloc (.cells #[.int .i64 (P : Int), .int .i64 (K : Int), .slice fa fn fc] 24)) (.cells #[u] 25))
  have hs1 : (w.alloc (.cells #[.int .i64 (P : Int), .int .i64 (K : Int), .slice fa fn fc] 24)).heap.size = w.heap.size + 1 := by simp
  rw [hs1] at hL
  have C := hO _ _ b2 hL
  have Hu : Hid (∀ W, Below w.heap.size w W → Rw W u (toZ A)) := fun W b => hu.below b
  obtain ⟨ua, um, uc, rfl, Hum⟩ := rw_formH hu
  obtain ⟨W1, HW1⟩ : ∃ W1, Hid ((w.alloc (.cells #[.int .i64 (P : Int), .int .i64 (K : Int), .slice fa fn fc] 24)).alloc (.cells #[.slice ua um uc] 25) = W1) := ⟨_, rfl⟩
  rw [HW1.out] at b2 C
  clear hL hO hfq hF hu
  go_enter Tryd.func11, Tryd.ntmps11
  go_wp2_with (first
    | (go_at_call 26; rw [HW1.out]; refine C.mono ?_; rintro e w1 ⟨⟨rp, rk, rn, ra, rm, rc, rfl, hrv⟩, b3⟩; obtain ⟨rfl, rfl, ⟨rfl, rfl, rfl⟩, rfl⟩ : rp = (P : Int) ∧ rk = (K : Int) ∧ (ra = fa ∧ rm = fn ∧ rc = fc) ∧ rn = (n : Int) := rm_inj (hrv rfl); have r2 : RmB (w1.alloc (.cells #[.int .i64 (P : Int), .int .i64 (K : Int), .slice ra rm rc, .int .i64 (n : Int)] 50)) w1.heap.size (P : Int) (K : Int) (.slice ra rm rc) (n : Int) := heap_alloc_new w1 _; have b5 : Below w.heap.size w (w1.alloc (.cells #[.int .i64 (P : Int), .int .i64 (K : Int), .slice ra rm rc, .int .i64 (n : Int)] 50)) := Below.next (Below.next b2 b3) (balloc w1 _); obtain ⟨c0, c1, c2, c3⟩ := r2.cells; clear C hrv)
    | (go_at_call 28; refine (HNor.out _ _ A b5 (Hu.out _ b5) HA.out (by omega)).mono ?_; rintro e w3 ⟨⟨y, Y, rfl, hY, hy⟩, b6⟩))
  go_ret2
  exact ⟨⟨_, _, rfl, hY, hy⟩, Below.next b5 b6⟩
set_option maxRecDepth 100000 in
set_option maxHeartbeats 16000000 in
theorem Join_ok (P K n : Nat) (l : List Int) (v u x : Value) (A B : List (List Nat)) (w : World) (hF : Fld P K l v w) (hu : Rw w u (toZ A)) (hA : Rws (P ^ K) n A) (hAl : A.length ≤ 12) (hx : Rw w x (toZ B)) (hB : Rws (P ^ K) n B) (hBl : B.length ≤ 12) (h1 : 1 ≤ n) (hn : n ≤ 6) (hO : OpC P K n v [u, x] [toZ A, toZ B] w 0 (rmV P K v n)) :
    Calls Tryd.prog 19 #[.agg #[.int .i64 (P : Int), .int .i64 (K : Int), v], .int .i64 (n : Int), u, x] w fun e w' => BaR (P ^ K) (adF P K) (muF P K l) n (Spn (P ^ K) (adF P K) (muF P K l) n (A ++ B)) e w' ∧ Below w.heap.size w w' := by
  have hfq := hF.fqr
  have HBas : Hid (∀ (W : World) (y : Value) (Y : List (List Nat)), Below w.heap.size w W → Rw W y (toZ Y) → Rws (P ^ K) n Y → Y.length ≤ 24 → Calls Tryd.prog 27 #[rmV P K v n, y] W fun e w' => BaA (P ^ K) (adF P K) (muF P K l) n Y e w' ∧ Below W.heap.size W w') := fun W y Y b hy hY hl => basis_any P K n l v y Y W (hF.below b) hy hY h1 hn hl
  have HA : Hid (Rws (P ^ K) n A) := hA
  have HB : Hid (Rws (P ^ K) n B) := hB
  have HAB : Hid (Rws (P ^ K) n (A ++ B)) := fun s hs => (List.mem_append.1 hs).elim (hA s) (hB s)
  obtain ⟨fa, fn, fc, rfl⟩ : ∃ fa fn fc, v = .slice fa fn fc := by obtain ⟨a, c, e, _⟩ := hF.sl; exact ⟨a, _, c, e⟩
  have b1 := balloc w (.cells #[.int .i64 (P : Int), .int .i64 (K : Int), .slice fa fn fc] 24)
  obtain ⟨x0, x1, x2⟩ := fl_box (P : Int) (K : Int) (.slice fa fn fc) w _ (Below.refl _ _)
  have hL := ls_two (hu.below b1) (by rw [toZ_len]; exact len_max (by omega)) (toZ_max hA hn) (hx.below b1) (by rw [toZ_len]; exact len_max (by omega)) (toZ_max hB hn)
  have b2 := Below.next b1 (balloc (w.alloc (.cells #[.int .i64 (P : Int), .int .i64 (K : Int), .slice fa fn fc] 24)) (.cells #[u, x] 25))
  have hs1 : (w.alloc (.cells #[.int .i64 (P : Int), .int .i64 (K : Int), .slice fa fn fc] 24)).heap.size = w.heap.size + 1 := by simp
  rw [hs1] at hL
  have C := hO _ _ b2 hL
  have Hu : Hid (∀ W, Below w.heap.size w W → Rw W u (toZ A)) := fun W b => hu.below b
  obtain ⟨ua, um, uc, rfl, Hum⟩ := rw_formH hu
  have Hx : Hid (∀ W, Below w.heap.size w W → Rw W x (toZ B)) := fun W b => hx.below b
  obtain ⟨xa, xm, xc, rfl, Hxm⟩ := rw_formH hx
  obtain ⟨W1, HW1⟩ : ∃ W1, Hid ((w.alloc (.cells #[.int .i64 (P : Int), .int .i64 (K : Int), .slice fa fn fc] 24)).alloc (.cells #[.slice ua um uc, .slice xa xm xc] 25) = W1) := ⟨_, rfl⟩
  rw [HW1.out] at b2 C
  clear hL hO hfq hF hu hx
  go_enter Tryd.func19, Tryd.ntmps19
  go_wp2_with (first
    | (go_at_call 26; rw [HW1.out]; refine C.mono ?_; rintro e w1 ⟨⟨rp, rk, rn, ra, rm, rc, rfl, hrv⟩, b3⟩; obtain ⟨rfl, rfl, ⟨rfl, rfl, rfl⟩, rfl⟩ : rp = (P : Int) ∧ rk = (K : Int) ∧ (ra = fa ∧ rm = fn ∧ rc = fc) ∧ rn = (n : Int) := rm_inj (hrv rfl); have r2 : RmB (w1.alloc (.cells #[.int .i64 (P : Int), .int .i64 (K : Int), .slice ra rm rc, .int .i64 (n : Int)] 50)) w1.heap.size (P : Int) (K : Int) (.slice ra rm rc) (n : Int) := heap_alloc_new w1 _; have b5 : Below w.heap.size w (w1.alloc (.cells #[.int .i64 (P : Int), .int .i64 (K : Int), .slice ra rm rc, .int .i64 (n : Int)] 50)) := Below.next (Below.next b2 b3) (balloc w1 _); obtain ⟨c0, c1, c2, c3⟩ := r2.cells; clear C hrv))
  clear c0 c1 c2 c3 x0 x1 x2
  revert b5 r2
  generalize (w1.alloc (.cells #[.int .i64 (P : Int), .int .i64 (K : Int), .slice ra rm rc, .int .i64 (n : Int)] 50)) = W2
  generalize w1.heap.size = rb
  intro r2 b5
  have hS : Hid (∀ W, Below W2.heap.size W2 W → (W.cell? ⟨rb, 0, none⟩ = some (.int .i64 (P : Int)) ∧ W.cell? ⟨rb, 1, none⟩ = some (.int .i64 (K : Int)) ∧ W.cell? ⟨rb, 2, none⟩ = some (.slice ra rm rc) ∧ W.cell? ⟨rb, 3, none⟩ = some (.int .i64 (n : Int)))) := fun W hW => (r2.below hW).cells
  have HB2 : Hid (∀ W, Below W2.heap.size W2 W → Below w.heap.size w W) := fun W hW => Below.next b5 hW
  have p1 : Below W2.heap.size W2 W2 := Below.refl _ _
  clear r2
  refine wp_region_noPanic ?_
  refine wp_region_held_drew (S := fun W => W.cell? ⟨rb, 0, none⟩ = some (.int .i64 (P : Int)) ∧ W.cell? ⟨rb, 1, none⟩ = some (.int .i64 (K : Int)) ∧ W.cell? ⟨rb, 2, none⟩ = some (.slice ra rm rc) ∧ W.cell? ⟨rb, 3, none⟩ = some (.int .i64 (n : Int))) (by kernel_rfl) (hS.out _ p1.drew) (fun hSx => ?_)
  refine wpAnyH_take (i := 0) (v := .agg #[.int .i64 (P : Int), .int .i64 (K : Int), .slice ra rm rc, .int .i64 (n : Int)]) rfl (by kernel_rfl) (by kernel_rfl) (by kernel_rfl) (fun _ _ _ h => h) (Or.inl ⟨by rfl, fun w' hSw => by (try dsimp only at hSw); obtain ⟨hs0, hs1, hs2, hs3⟩ := hSw; go_simp⟩) hSx ?_
  try simp only [Act.put, List.setIfInBounds_toArray]
  refine wpAnyH_take (i := 1) (v := .slice ua um uc) rfl (by kernel_rfl) (by kernel_rfl) (by kernel_rfl) (fun _ _ _ h => h) (Or.inl ⟨by rfl, fun w' hSw => by (try dsimp only at hSw); obtain ⟨hs0, hs1, hs2, hs3⟩ := hSw; go_simp⟩) hSx ?_
  try simp only [Act.put]
  refine wpAnyH_take (i := 2) (v := .slice xa xm xc) rfl (by kernel_rfl) (by kernel_rfl) (by kernel_rfl) (fun _ _ _ h => h) (Or.inl ⟨by rfl, fun w' hSw => by (try dsimp only at hSw); obtain ⟨hs0, hs1, hs2, hs3⟩ := hSw; go_simp⟩) hSx ?_
  try simp only [Act.put]
  refine wpAnyH_ready (rs := [3]) (by kernel_rfl) (by simp) ?_
  refine (AllReadyH.cons rfl (fun J hJ => ?_) AllReadyH.nil)
  go_simp
  have q1 : Below W2.heap.size W2 (W2.alloc (.cells #[.slice ua um uc, .slice xa xm xc] 25)).drew := (balloc W2 (.cells #[.slice ua um uc, .slice xa xm xc] 25)).drew
  have f1 : LsR (W2.alloc (.cells #[.slice ua um uc, .slice xa xm xc] 25)).drew (.slice (some ⟨W2.heap.size, 0, none⟩) 2 2) _ _ := ls_two (Hu.out W2 b5) (by rw [toZ_len]; exact len_max (by omega)) (toZ_max HA.out hn) (Hx.out W2 b5) (by rw [toZ_len]; exact len_max (by omega)) (toZ_max HB.out hn)
  refine hJ.out _ _ (hS.out _ q1) (fun hSx => ?_)
  clear hJ J
  try simp only [Act.put, List.setIfInBounds_toArray, List.set_cons_zero, List.set_cons_succ]
  revert q1 f1 hSx
  generalize (W2.alloc (.cells #[.slice ua um uc, .slice xa xm xc] 25)).drew = W3
  intro q1 f1 hSx
  have C3 := ConcatR_any _ _ _ W3 f1 (by simp) (by rw [toZ_app, toZ_len, List.length_append]; omega)
  rw [toZ_app] at C3
  refine wpAnyH_ready (rs := [4]) (by kernel_rfl) (by simp) ?_
  refine (AllReadyH.cons rfl (fun J hJ => ?_) AllReadyH.nil)
  go_simp
  refine C3.mono ?_
  rintro e w3 ⟨y, rfl, hy, b7⟩
  have q3 := Below.next q1 b7
  obtain ⟨ya, ym, yc, rfl, Hym⟩ := rw_formH hy
  go_wp2_with fail
  refine hJ.out _ _ (hS.out _ q3) (fun hSx => ?_)
  clear hJ J
  try simp only [Act.put, List.setIfInBounds_toArray, List.set_cons_zero, List.set_cons_succ]
  have C4 := HBas.out w3 _ (A ++ B) (HB2.out w3 q3) hy HAB.out (by rw [List.length_append]; omega)
  refine wpAnyH_ready (rs := [5]) (by kernel_rfl) (by simp) ?_
  refine (AllReadyH.cons rfl (fun J hJ => ?_) AllReadyH.nil)
  go_simp
  refine C4.mono ?_
  rintro e w4 ⟨⟨z, Y, rfl, hY, hz⟩, b8⟩
  have q4 := Below.next q3 b8
  obtain ⟨za, zm, zc, rfl, Hzm⟩ := rw_formH hz
  go_wp2_with fail
  refine hJ.out _ _ (hS.out _ q4) (fun hSx => ?_)
  clear hJ J
  try simp only [Act.put, List.setIfInBounds_toArray, List.set_cons_zero, List.set_cons_succ]
  refine wpAnyH_ready (rs := [6]) (by kernel_rfl) (by simp) ?_
  refine (AllReadyH.cons rfl (fun J hJ => ?_) AllReadyH.nil)
  go_simp
  refine hJ.out _ _ (hS.out _ q4) (fun hSx => ?_)
  clear hJ J
  try simp only [Act.put, List.setIfInBounds_toArray, List.set_cons_zero, List.set_cons_succ]
  refine wpAnyH_ready (rs := [7]) (by kernel_rfl) (by simp) ?_
  refine (AllReadyH.cons rfl (fun J hJ => ?_) AllReadyH.nil)
  go_simp
  refine hJ.out _ _ (hS.out _ q4) (fun hSx => ?_)
  clear hJ J
  try simp only [Act.put, List.setIfInBounds_toArray, List.set_cons_zero, List.set_cons_succ]
  refine wpAnyH_done (by kernel_rfl) ?_ _
  refine NoPanic.normal ?_
  go_wp2
  go_ret2
  exact ⟨⟨_, _, rfl, hY, hz⟩, HB2.out _ q4⟩
set_option maxRecDepth 100000 in
set_option maxHeartbeats 16000000 in
theorem Meet_ok (P K n : Nat) (l : List Int) (v u x : Value) (A B : List (List Nat)) (w : World) (hF : Fld P K l v w) (hu : Rw w u (toZ A)) (hA : Rws (P ^ K) n A) (hAl : A.length ≤ 12) (hx : Rw w x (toZ B)) (hB : Rws (P ^ K) n B) (hBl : B.length ≤ 12) (h1 : 1 ≤ n) (hn : n ≤ 6) (hO : OpC P K n v [u, x] [toZ A, toZ B] w 0 (rmV P K v n)) :
    Calls Tryd.prog 20 #[.agg #[.int .i64 (P : Int), .int .i64 (K : Int), v], .int .i64 (n : Int), u, x] w fun e w' => BaR (P ^ K) (adF P K) (muF P K l) n (fun v => Spn (P ^ K) (adF P K) (muF P K l) n A v ∧ Spn (P ^ K) (adF P K) (muF P K l) n B v) e w' ∧ Below w.heap.size w w' := by
  have hfq := hF.fqr
  have HNor : Hid (∀ (W : World) (y : Value) (Y : List (List Nat)), Below w.heap.size w W → Rw W y (toZ Y) → Rws (P ^ K) n Y → Y.length ≤ 24 → Calls Tryd.prog 28 #[rmV P K v n, y] W fun e w' => NoA (P ^ K) (adF P K) (muF P K l) n Y e w' ∧ Below W.heap.size W w') := fun W y Y b hy hY hl => normal_any P K n l v y Y W (hF.below b) hy hY h1 hn hl
  have HA : Hid (Rws (P ^ K) n A) := hA
  have HB : Hid (Rws (P ^ K) n B) := hB
  have HMt : Hid (∀ U V M, BasIs (P ^ K) (adF P K) (muF P K l) n (Nrm (P ^ K) (adF P K) (muF P K l) n A) U → BasIs (P ^ K) (adF P K) (muF P K l) n (Nrm (P ^ K) (adF P K) (muF P K l) n B) V → BasIs (P ^ K) (adF P K) (muF P K l) n (Nrm (P ^ K) (adF P K) (muF P K l) n (U ++ V)) M → BasIs (P ^ K) (adF P K) (muF P K l) n (fun v => Spn (P ^ K) (adF P K) (muF P K l) n A v ∧ Spn (P ^ K) (adF P K) (muF P K l) n B v) M) := fun U V M hU hV hM => meet_made hfq hA hB hU hV hM
  obtain ⟨fa, fn, fc, rfl⟩ : ∃ fa fn fc, v = .slice fa fn fc := by obtain ⟨a, c, e, _⟩ := hF.sl; exact ⟨a, _, c, e⟩
  have b1 := balloc w (.cells #[.int .i64 (P : Int), .int .i64 (K : Int), .slice fa fn fc] 24)
  obtain ⟨x0, x1, x2⟩ := fl_box (P : Int) (K : Int) (.slice fa fn fc) w _ (Below.refl _ _)
  have hL := ls_two (hu.below b1) (by rw [toZ_len]; exact len_max (by omega)) (toZ_max hA hn) (hx.below b1) (by rw [toZ_len]; exact len_max (by omega)) (toZ_max hB hn)
  have b2 := Below.next b1 (balloc (w.alloc (.cells #[.int .i64 (P : Int), .int .i64 (K : Int), .slice fa fn fc] 24)) (.cells #[u, x] 25))
  have hs1 : (w.alloc (.cells #[.int .i64 (P : Int), .int .i64 (K : Int), .slice fa fn fc] 24)).heap.size = w.heap.size + 1 := by simp
  rw [hs1] at hL
  have C := hO _ _ b2 hL
  have Hu : Hid (∀ W, Below w.heap.size w W → Rw W u (toZ A)) := fun W b => hu.below b
  obtain ⟨ua, um, uc, rfl, Hum⟩ := rw_formH hu
  have Hx : Hid (∀ W, Below w.heap.size w W → Rw W x (toZ B)) := fun W b => hx.below b
  obtain ⟨xa, xm, xc, rfl, Hxm⟩ := rw_formH hx
  obtain ⟨W1, HW1⟩ : ∃ W1, Hid ((w.alloc (.cells #[.int .i64 (P : Int), .int .i64 (K : Int), .slice fa fn fc] 24)).alloc (.cells #[.slice ua um uc, .slice xa xm xc] 25) = W1) := ⟨_, rfl⟩
  rw [HW1.out] at b2 C
  clear hL hO hfq hF hu hx
  go_enter Tryd.func20, Tryd.ntmps20
  go_wp2_with (first
    | (go_at_call 26; rw [HW1.out]; refine C.mono ?_; rintro e w1 ⟨⟨rp, rk, rn, ra, rm, rc, rfl, hrv⟩, b3⟩; obtain ⟨rfl, rfl, ⟨rfl, rfl, rfl⟩, rfl⟩ : rp = (P : Int) ∧ rk = (K : Int) ∧ (ra = fa ∧ rm = fn ∧ rc = fc) ∧ rn = (n : Int) := rm_inj (hrv rfl); have r2 : RmB (w1.alloc (.cells #[.int .i64 (P : Int), .int .i64 (K : Int), .slice ra rm rc, .int .i64 (n : Int)] 50)) w1.heap.size (P : Int) (K : Int) (.slice ra rm rc) (n : Int) := heap_alloc_new w1 _; have b5 : Below w.heap.size w (w1.alloc (.cells #[.int .i64 (P : Int), .int .i64 (K : Int), .slice ra rm rc, .int .i64 (n : Int)] 50)) := Below.next (Below.next b2 b3) (balloc w1 _); obtain ⟨c0, c1, c2, c3⟩ := r2.cells; clear C hrv))
  clear c0 c1 c2 c3 x0 x1 x2
  revert b5 r2
  generalize (w1.alloc (.cells #[.int .i64 (P : Int), .int .i64 (K : Int), .slice ra rm rc, .int .i64 (n : Int)] 50)) = W2
  generalize w1.heap.size = rb
  intro r2 b5
  have hS : Hid (∀ W, Below W2.heap.size W2 W → (W.cell? ⟨rb, 0, none⟩ = some (.int .i64 (P : Int)) ∧ W.cell? ⟨rb, 1, none⟩ = some (.int .i64 (K : Int)) ∧ W.cell? ⟨rb, 2, none⟩ = some (.slice ra rm rc) ∧ W.cell? ⟨rb, 3, none⟩ = some (.int .i64 (n : Int)))) := fun W hW => (r2.below hW).cells
  have HB2 : Hid (∀ W, Below W2.heap.size W2 W → Below w.heap.size w W) := fun W hW => Below.next b5 hW
  have p1 : Below W2.heap.size W2 W2 := Below.refl _ _
  clear r2
  refine wp_region_noPanic ?_
  refine wp_region_held_drew (S := fun W => W.cell? ⟨rb, 0, none⟩ = some (.int .i64 (P : Int)) ∧ W.cell? ⟨rb, 1, none⟩ = some (.int .i64 (K : Int)) ∧ W.cell? ⟨rb, 2, none⟩ = some (.slice ra rm rc) ∧ W.cell? ⟨rb, 3, none⟩ = some (.int .i64 (n : Int))) (by kernel_rfl) (hS.out _ p1.drew) (fun hSx => ?_)
  refine wpAnyH_take (i := 0) (v := .agg #[.int .i64 (P : Int), .int .i64 (K : Int), .slice ra rm rc, .int .i64 (n : Int)]) rfl (by kernel_rfl) (by kernel_rfl) (by kernel_rfl) (fun _ _ _ h => h) (Or.inl ⟨by rfl, fun w' hSw => by (try dsimp only at hSw); obtain ⟨hs0, hs1, hs2, hs3⟩ := hSw; go_simp⟩) hSx ?_
  try simp only [Act.put, List.setIfInBounds_toArray]
  refine wpAnyH_take (i := 1) (v := .agg #[.int .i64 (P : Int), .int .i64 (K : Int), .slice ra rm rc, .int .i64 (n : Int)]) rfl (by kernel_rfl) (by kernel_rfl) (by kernel_rfl) (fun _ _ _ h => h) (Or.inl ⟨by rfl, fun w' hSw => by (try dsimp only at hSw); obtain ⟨hs0, hs1, hs2, hs3⟩ := hSw; go_simp⟩) hSx ?_
  try simp only [Act.put]
  refine wpAnyH_take (i := 2) (v := .slice ua um uc) rfl (by kernel_rfl) (by kernel_rfl) (by kernel_rfl) (fun _ _ _ h => h) (Or.inl ⟨by rfl, fun w' hSw => by (try dsimp only at hSw); obtain ⟨hs0, hs1, hs2, hs3⟩ := hSw; go_simp⟩) hSx ?_
  try simp only [Act.put]
  refine wpAnyH_take (i := 4) (v := .agg #[.int .i64 (P : Int), .int .i64 (K : Int), .slice ra rm rc, .int .i64 (n : Int)]) rfl (by kernel_rfl) (by kernel_rfl) (by kernel_rfl) (fun _ _ _ h => h) (Or.inl ⟨by rfl, fun w' hSw => by (try dsimp only at hSw); obtain ⟨hs0, hs1, hs2, hs3⟩ := hSw; go_simp⟩) hSx ?_
  try simp only [Act.put]
  refine wpAnyH_take (i := 5) (v := .slice xa xm xc) rfl (by kernel_rfl) (by kernel_rfl) (by kernel_rfl) (fun _ _ _ h => h) (Or.inl ⟨by rfl, fun w' hSw => by (try dsimp only at hSw); obtain ⟨hs0, hs1, hs2, hs3⟩ := hSw; go_simp⟩) hSx ?_
  try simp only [Act.put]
  have C3 := HNor.out W2.drew _ A (HB2.out _ p1.drew) (Hu.out _ (HB2.out _ p1.drew)) HA.out (by omega)
  refine wpAnyH_ready (rs := [3]) (by kernel_rfl) (by simp) ?_
  refine (AllReadyH.cons rfl (fun J hJ => ?_) AllReadyH.nil)
  go_simp
  refine C3.mono ?_
  rintro e w3 ⟨⟨y, U, rfl, hU, hy⟩, b7⟩
  have q3 := Below.next p1.drew b7
  obtain ⟨ya, ym, yc, rfl, Hym⟩ := rw_formH hy
  go_wp2_with fail
  refine hJ.out _ _ (hS.out _ q3) (fun hSx => ?_)
  clear hJ J
  try simp only [Act.put, List.setIfInBounds_toArray, List.set_cons_zero, List.set_cons_succ]
  have C4 := HNor.out w3 _ B (HB2.out _ q3) (Hx.out _ (HB2.out _ q3)) HB.out (by omega)
  refine wpAnyH_ready (rs := [6]) (by kernel_rfl) (by simp) ?_
  refine (AllReadyH.cons rfl (fun J hJ => ?_) AllReadyH.nil)
  go_simp
  refine C4.mono ?_
  rintro e w4 ⟨⟨z, V, rfl, hV, hz⟩, b8⟩
  have q4 := Below.next q3 b8
  obtain ⟨za, zm, zc, rfl, Hzm⟩ := rw_formH hz
  go_wp2_with fail
  refine hJ.out _ _ (hS.out _ q4) (fun hSx => ?_)
  clear hJ J
  try simp only [Act.put, List.setIfInBounds_toArray, List.set_cons_zero, List.set_cons_succ]
  have hUl := rref_le hU.rref
  have hVl := rref_le hV.rref
  have hy4 := hy.below b8
  refine wpAnyH_ready (rs := [7]) (by kernel_rfl) (by simp) ?_
  refine (AllReadyH.cons rfl (fun J hJ => ?_) AllReadyH.nil)
  go_simp
  have q5 : Below W2.heap.size W2 (w4.alloc (.cells #[.slice ya ym yc, .slice za zm zc] 25)) := Below.next q4 (balloc w4 (.cells #[.slice ya ym yc, .slice za zm zc] 25))
  have f1 : LsR (w4.alloc (.cells #[.slice ya ym yc, .slice za zm zc] 25)) (.slice (some ⟨w4.heap.size, 0, none⟩) 2 2) _ _ := ls_two hy4 (by rw [toZ_len]; exact len_max (by omega)) (toZ_max hU.rref.rws hn) hz (by rw [toZ_len]; exact len_max (by omega)) (toZ_max hV.rref.rws hn)
  refine hJ.out _ _ (hS.out _ q5) (fun hSx => ?_)
  clear hJ J
  try simp only [Act.put, List.setIfInBounds_toArray, List.set_cons_zero, List.set_cons_succ]
  revert q5 f1 hSx
  generalize w4.alloc (.cells #[.slice ya ym yc, .slice za zm zc] 25) = W5
  intro q5 f1 hSx
  have C5 := ConcatR_any _ _ _ W5 f1 (by simp) (by rw [toZ_app, toZ_len, List.length_append]; omega)
  rw [toZ_app] at C5
  refine wpAnyH_ready (rs := [8]) (by kernel_rfl) (by simp) ?_
  refine (AllReadyH.cons rfl (fun J hJ => ?_) AllReadyH.nil)
  go_simp
  refine C5.mono ?_
  rintro e w6 ⟨t, rfl, ht, b9⟩
  have q6 := Below.next q5 b9
  obtain ⟨ta, tm, tc, rfl, Htm⟩ := rw_formH ht
  go_wp2_with fail
  refine hJ.out _ _ (hS.out _ q6) (fun hSx => ?_)
  clear hJ J
  try simp only [Act.put, List.setIfInBounds_toArray, List.set_cons_zero, List.set_cons_succ]
  have C6 := HNor.out w6 _ (U ++ V) (HB2.out _ q6) ht (fun s hs => (List.mem_append.1 hs).elim (hU.rref.rws s) (hV.rref.rws s)) (by rw [List.length_append]; omega)
  refine wpAnyH_ready (rs := [9]) (by kernel_rfl) (by simp) ?_
  refine (AllReadyH.cons rfl (fun J hJ => ?_) AllReadyH.nil)
  go_simp
  refine C6.mono ?_
  rintro e w7 ⟨⟨s, M, rfl, hM, hs⟩, b10⟩
  have q7 := Below.next q6 b10
  obtain ⟨sa, sm, sc, rfl, Hsm⟩ := rw_formH hs
  go_wp2_with fail
  refine hJ.out _ _ (hS.out _ q7) (fun hSx => ?_)
  clear hJ J
  try simp only [Act.put, List.setIfInBounds_toArray, List.set_cons_zero, List.set_cons_succ]
  refine wpAnyH_ready (rs := [10]) (by kernel_rfl) (by simp) ?_
  refine (AllReadyH.cons rfl (fun J hJ => ?_) AllReadyH.nil)
  go_simp
  refine hJ.out _ _ (hS.out _ q7) (fun hSx => ?_)
  clear hJ J
  try simp only [Act.put, List.setIfInBounds_toArray, List.set_cons_zero, List.set_cons_succ]
  refine wpAnyH_ready (rs := [11]) (by kernel_rfl) (by simp) ?_
  refine (AllReadyH.cons rfl (fun J hJ => ?_) AllReadyH.nil)
  go_simp
  refine hJ.out _ _ (hS.out _ q7) (fun hSx => ?_)
  clear hJ J
  try simp only [Act.put, List.setIfInBounds_toArray, List.set_cons_zero, List.set_cons_succ]
  refine wpAnyH_done (by kernel_rfl) ?_ _
  refine NoPanic.normal ?_
  go_wp2
  go_ret2
  exact ⟨⟨_, _, rfl, HMt.out U V M hU hV hM, hs⟩, HB2.out _ q7⟩
set_option maxRecDepth 100000 in
set_option maxHeartbeats 16000000 in
theorem Has_row (P K n : Nat) (l : List Int) (v u y : Value) (A : List (List Nat)) (r : List Int) (z : Nat) (w : World) (hF : Fld P K l v w) (hu : Rw w u (toZ A)) (hA : Rws (P ^ K) n A) (hAl : A.length ≤ 12) (_h1 : 1 ≤ n) (hn : n ≤ 6) (hO : OpC P K n v [u] [toZ A] w 0 (rmV P K v n)) (hy : Sl w y r) (hyl : r.length ≤ maxLen) (hz : Hid (rwE (P ^ K) n r = z)) (h0 : z ≠ 0) :
    Calls Tryd.prog 12 #[.agg #[.int .i64 (P : Int), .int .i64 (K : Int), v], .int .i64 (n : Int), u, y] w fun e w' => e = .returned (.tuple #[.bool false, .int .i64 (z : Int)]) ∧ Below w.heap.size w w' := by
  have hfq := hF.fqr
  have HCk : Hid (∀ W, Below w.heap.size w W → Calls Tryd.prog 29 #[rmV P K v n, y] W fun e w' => e = .returned (.int .i64 (z : Int)) ∧ Below W.heap.size W w') := fun W b => checkRow_any P K n l r v y W (hF.below b) (hy.below b) hyl hn z hz
  have hyf : ∃ a m c, y = .slice a m c := by obtain ⟨a, c, e, _⟩ := hy; exact ⟨a, _, c, e⟩
  obtain ⟨ya, ym, yc, rfl⟩ := hyf
  have hne : ((z : Int) != 0) = true := by simp; omega
  obtain ⟨fa, fn, fc, rfl⟩ : ∃ fa fn fc, v = .slice fa fn fc := by obtain ⟨a, c, e, _⟩ := hF.sl; exact ⟨a, _, c, e⟩
  have b1 := balloc w (.cells #[.int .i64 (P : Int), .int .i64 (K : Int), .slice fa fn fc] 24)
  obtain ⟨x0, x1, x2⟩ := fl_box (P : Int) (K : Int) (.slice fa fn fc) w _ (Below.refl _ _)
  have hL := ls_one (hu.below b1) (by rw [toZ_len]; exact len_max (by omega)) (toZ_max hA hn)
  have b2 := Below.next b1 (balloc (w.alloc (.cells #[.int .i64 (P : Int), .int .i64 (K : Int), .slice fa fn fc] 24)) (.cells #[u] 25))
  have hs1 : (w.alloc (.cells #[.int .i64 (P : Int), .int .i64 (K : Int), .slice fa fn fc] 24)).heap.size = w.heap.size + 1 := by simp
  rw [hs1] at hL
  have C := hO _ _ b2 hL
  have Hu : Hid (∀ W, Below w.heap.size w W → Rw W u (toZ A)) := fun W b => hu.below b
  obtain ⟨ua, um, uc, rfl, Hum⟩ := rw_formH hu
  obtain ⟨W1, HW1⟩ : ∃ W1, Hid ((w.alloc (.cells #[.int .i64 (P : Int), .int .i64 (K : Int), .slice fa fn fc] 24)).alloc (.cells #[.slice ua um uc] 25) = W1) := ⟨_, rfl⟩
  rw [HW1.out] at b2 C
  clear hL hO hfq hF hu
  go_enter Tryd.func12, Tryd.ntmps12
  go_wp2_with (first
    | (go_at_call 26; rw [HW1.out]; refine C.mono ?_; rintro e w1 ⟨⟨rp, rk, rn, ra, rm, rc, rfl, hrv⟩, b3⟩; obtain ⟨rfl, rfl, ⟨rfl, rfl, rfl⟩, rfl⟩ : rp = (P : Int) ∧ rk = (K : Int) ∧ (ra = fa ∧ rm = fn ∧ rc = fc) ∧ rn = (n : Int) := rm_inj (hrv rfl); have r2 : RmB (w1.alloc (.cells #[.int .i64 (P : Int), .int .i64 (K : Int), .slice ra rm rc, .int .i64 (n : Int)] 50)) w1.heap.size (P : Int) (K : Int) (.slice ra rm rc) (n : Int) := heap_alloc_new w1 _; have b5 : Below w.heap.size w (w1.alloc (.cells #[.int .i64 (P : Int), .int .i64 (K : Int), .slice ra rm rc, .int .i64 (n : Int)] 50)) := Below.next (Below.next b2 b3) (balloc w1 _); obtain ⟨c0, c1, c2, c3⟩ := r2.cells; clear C hrv)
    | (go_at_call 29; refine (HCk.out _ b5).mono ?_; rintro e w3 ⟨rfl, b6⟩))
  go_ret2
  exact ⟨rfl, Below.next b5 b6⟩
theorem rwE_vc {q n : Nat} {r : List Nat} (h : Vc q n r) : rwE q n (r.map Int.ofNat) = 0 := rwE_in (by rw [List.length_map, h.len]) fun j hj => by
  have hj' : j < r.length := by simpa using hj
  have := h.lt _ (List.getElem_mem hj')
  simp [hj']
  omega
open Classical in
set_option maxRecDepth 100000 in
set_option maxHeartbeats 16000000 in
theorem Has_ok (P K n : Nat) (l : List Int) (v u y : Value) (A : List (List Nat)) (r : List Nat) (w : World) (hF : Fld P K l v w) (hu : Rw w u (toZ A)) (hA : Rws (P ^ K) n A) (hAl : A.length ≤ 12) (h1 : 1 ≤ n) (hn : n ≤ 6) (hO : OpC P K n v [u] [toZ A] w 0 (rmV P K v n)) (hy : Sl w y (r.map Int.ofNat)) (hr : Vc (P ^ K) n r) :
    Calls Tryd.prog 12 #[.agg #[.int .i64 (P : Int), .int .i64 (K : Int), v], .int .i64 (n : Int), u, y] w fun e w' => e = .returned (.tuple #[.bool (decide (Spn (P ^ K) (adF P K) (muF P K l) n A r)), .int .i64 0]) ∧ Below w.heap.size w w' := by
  have hfq := hF.fqr
  have HCk : Hid (∀ W, Below w.heap.size w W → Calls Tryd.prog 29 #[rmV P K v n, y] W fun e w' => e = .returned (.int .i64 ((0 : Nat) : Int)) ∧ Below W.heap.size W w') := fun W b => checkRow_any P K n l _ v y W (hF.below b) (hy.below b) (by rw [List.length_map, hr.len]; exact len_max (by omega)) hn 0 (rwE_vc hr)
  have HHas : Hid (∀ W, Below w.heap.size w W → Calls Tryd.prog 30 #[rmV P K v n, u, y] W fun e w' => e = .returned (.bool (decide (Spn (P ^ K) (adF P K) (muF P K l) n A r))) ∧ Below W.heap.size W w') := fun W b => has_any P K n l v u y A r W (hF.below b) (hu.below b) (hy.below b) hA hr h1 hn hAl
  obtain ⟨Z, HZ⟩ : ∃ Z, Hid (decide (Spn (P ^ K) (adF P K) (muF P K l) n A r) = Z) := ⟨_, rfl⟩
  rw [HZ.out] at HHas ⊢
  have hyf : ∃ a m c, y = .slice a m c := by obtain ⟨a, c, e, _⟩ := hy; exact ⟨a, _, c, e⟩
  obtain ⟨ya, ym, yc, rfl⟩ := hyf
  obtain ⟨fa, fn, fc, rfl⟩ : ∃ fa fn fc, v = .slice fa fn fc := by obtain ⟨a, c, e, _⟩ := hF.sl; exact ⟨a, _, c, e⟩
  have b1 := balloc w (.cells #[.int .i64 (P : Int), .int .i64 (K : Int), .slice fa fn fc] 24)
  obtain ⟨x0, x1, x2⟩ := fl_box (P : Int) (K : Int) (.slice fa fn fc) w _ (Below.refl _ _)
  have hL := ls_one (hu.below b1) (by rw [toZ_len]; exact len_max (by omega)) (toZ_max hA hn)
  have b2 := Below.next b1 (balloc (w.alloc (.cells #[.int .i64 (P : Int), .int .i64 (K : Int), .slice fa fn fc] 24)) (.cells #[u] 25))
  have hs1 : (w.alloc (.cells #[.int .i64 (P : Int), .int .i64 (K : Int), .slice fa fn fc] 24)).heap.size = w.heap.size + 1 := by simp
  rw [hs1] at hL
  have C := hO _ _ b2 hL
  have Hu : Hid (∀ W, Below w.heap.size w W → Rw W u (toZ A)) := fun W b => hu.below b
  obtain ⟨ua, um, uc, rfl, Hum⟩ := rw_formH hu
  obtain ⟨W1, HW1⟩ : ∃ W1, Hid ((w.alloc (.cells #[.int .i64 (P : Int), .int .i64 (K : Int), .slice fa fn fc] 24)).alloc (.cells #[.slice ua um uc] 25) = W1) := ⟨_, rfl⟩
  rw [HW1.out] at b2 C
  clear hL hO hfq hF hu
  go_enter Tryd.func12, Tryd.ntmps12
  go_wp2_with (first
    | (go_at_call 26; rw [HW1.out]; refine C.mono ?_; rintro e w1 ⟨⟨rp, rk, rn, ra, rm, rc, rfl, hrv⟩, b3⟩; obtain ⟨rfl, rfl, ⟨rfl, rfl, rfl⟩, rfl⟩ : rp = (P : Int) ∧ rk = (K : Int) ∧ (ra = fa ∧ rm = fn ∧ rc = fc) ∧ rn = (n : Int) := rm_inj (hrv rfl); have r2 : RmB (w1.alloc (.cells #[.int .i64 (P : Int), .int .i64 (K : Int), .slice ra rm rc, .int .i64 (n : Int)] 50)) w1.heap.size (P : Int) (K : Int) (.slice ra rm rc) (n : Int) := heap_alloc_new w1 _; have b5 : Below w.heap.size w (w1.alloc (.cells #[.int .i64 (P : Int), .int .i64 (K : Int), .slice ra rm rc, .int .i64 (n : Int)] 50)) := Below.next (Below.next b2 b3) (balloc w1 _); obtain ⟨c0, c1, c2, c3⟩ := r2.cells; clear C hrv)
    | (go_at_call 29; refine (HCk.out _ b5).mono ?_; rintro e w3 ⟨rfl, b6⟩; obtain ⟨d0, d1, d2, d3⟩ := (r2.below b6).cells; clear c0 c1 c2 c3)
    | (go_at_call 30; refine (HHas.out _ (Below.next b5 b6)).mono ?_; rintro e w4 ⟨rfl, b7⟩))
  go_ret2
  exact ⟨rfl, Below.next (Below.next b5 b6) b7⟩
end Go.Proofs.YtgdkfbgehbdkjaaDoor
