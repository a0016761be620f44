/- The law GroupOrders, walked. -/
import Derived.Test.YtnbkabggmomhlaaG15
import Derived.Test.YtnbkabggmomhlaaP14
namespace Go.Proofs.Ytnbkabggmomhlaa
open Go.RowKit

theorem listed {n : Nat} {ms L : List (List Nat)} (hg : ∀ a, a ∈ L ↔ Gen n ms a) : listF n (inB n L) (fac n) = els n (Gen n ms) := listF_els hg

theorem Mk.each {n : Nat} {ms : List (List Nat)} {v : Value} {w : World} (h : Mk n ms v w) : ∀ l ∈ ms.map fun m => m.map Int.ofNat, l.length ≤ maxLen := by
  intro l hl
  obtain ⟨m, hm, rfl⟩ := List.mem_map.1 hl
  rw [List.length_map, (h.isP m hm).len]
  have := h.n7
  unfold maxLen
  omega
theorem Mk.lenI {n : Nat} {ms : List (List Nat)} {v : Value} {w : World} (h : Mk n ms v w) : (ms.map fun m => m.map Int.ofNat).length ≤ maxLen := by
  rw [List.length_map]
  have := h.len
  unfold maxLen
  omega

set_option maxRecDepth 100000 in
set_option maxHeartbeats 8000000 in
theorem law3_bad (n k : Int) (ls : List (List Int)) (v u : Value) (w : World) (hv : Came ls v w) (h0 : gF n ls ≠ 0) :
    Calls Try.prog 3 #[.int .i64 n, v, u, .int .i64 k] w fun e w' => e = .returned (.bool true) ∧ Below w.heap.size w w' := by
  obtain ⟨z, Hz⟩ : ∃ z, Hid (gF n ls = z) := ⟨_, rfl⟩
  have hz : z ≠ 0 := by rw [← Hz.out]; exact h0
  have C9 := GroupFault_any n ls v w hv.sls hv.each hv.len
  have C10 := fun W (h : Below w.heap.size w W) => GCheck_any n ls v W (hv.below h).sls hv.each hv.len
  have C11 := fun W (h : Below w.heap.size w W) => Order_bad n ls v W (hv.below h).sls hv.each hv.len z Hz.out hz
  have C12 := fun W (h : Below w.heap.size w W) => Element_bad n ls v k W (hv.below h).sls hv.each hv.len z Hz.out hz
  have C13 := fun W (h : Below w.heap.size w W) => Has_bad n ls v u W (hv.below h).sls hv.each hv.len z Hz.out hz
  rw [Hz.out] at C9 C10
  have hzd : (z != 0) = true := by simpa using hz
  obtain ⟨a, cap, rfl, _⟩ := hv.sls
  clear hv h0 hz
  go_enter Try.func3, Try.ntmps3
  go_wp2_with (first
    | (go_at_call 9; refine C9.mono ?_; rintro e w1 ⟨rfl, b1⟩)
    | (go_at_call 10; refine (C10 _ b1).mono ?_; rintro e w2 ⟨rfl, b2⟩; replace b2 := Below.next b1 b2)
    | (go_at_call 11; refine (C11 _ b2).mono ?_; rintro e w3 ⟨rfl, b3⟩; replace b3 := Below.next b2 b3)
    | (go_at_call 12; refine (C12 _ b3).mono ?_; rintro e w4 ⟨rfl, b4⟩; replace b4 := Below.next b3 b4)
    | (go_at_call 13; refine (C13 _ b4).mono ?_; rintro e w5 ⟨rfl, b5⟩; replace b5 := Below.next b4 b5))
  go_ret
  exact ⟨rfl, b5⟩

set_option maxRecDepth 100000 in
set_option maxHeartbeats 8000000 in
theorem law3_far_odd (n : Nat) (k : Int) (ms : List (List Nat)) (l : List Int) (v u : Value) (w : World) (hM : Mk n ms v w) (hk : k < 0 ∨ (ordG n ms : Int) ≤ k) (hu : Sl w u l) (hll : l.length ≤ maxLen) (h0 : mF n l ≠ 0) :
    Calls Try.prog 3 #[.int .i64 (n : Int), v, u, .int .i64 k] w fun e w' => e = .returned (.bool true) ∧ Below w.heap.size w w' := by
  have C9 := GroupFault_any n _ v w hM.sl.sls (hM.each) (hM.lenI)
  rw [gF_isP hM.n1 hM.n7 hM.len hM.isP] at C9
  have C10 := fun W (h : Below w.heap.size w W) => (hM.below h).check
  have C11 := fun W (h : Below w.heap.size w W) => Order_ok n ms v W (hM.below h)
  have C12 := fun W (h : Below w.heap.size w W) => Element_far n k ms v W (hM.below h) hk
  obtain ⟨q, Hq⟩ : ∃ q, Hid (mF n l = q) := ⟨_, rfl⟩
  have hq : q ≠ 0 := by rw [← Hq.out]; exact h0
  have hqd : (q != 0) = true := by simpa using hq
  have C13 := fun W (h : Below w.heap.size w W) => Has_odd n ms v l u W (hM.below h) (hu.below h) hll q Hq.out hq
  have C17 := fun W (h : Below w.heap.size w W) => MemberFault_any n l u W (hu.below h) hll
  rw [Hq.out] at C17
  have C14 := fun W (h : Below w.heap.size w W) => Members_any n ms v W hM.n7 hM.n1 (by have := hM.len; omega) (hM.below h).sl hM.isP
  have C15 := fun g L W (h : OwnB W g (fac n) (inB n L)) => ListOf_any n g (inB n L) W hM.n7 hM.n1 h
  have E1 : Hid (∀ L : List (List Nat), (∀ a, a ∈ L ↔ Gen n ms a) → listF n (inB n L) (fac n) = els n (Gen n ms)) := fun L hg => listed hg
  have HOL : Hid ((els n (Gen n ms)).length = ordG n ms) := rfl
  have hob : ordG n ms ≤ 5040 := ord_le' hM.isP hM.n7
  have hfb : fac n ≤ 5040 := by have h := fac_mono hM.n7; have h3 : fac 7 = 5040 := (by decide); omega
  obtain ⟨E, HE⟩ : ∃ E, Hid (els n (Gen n ms) = E) := ⟨_, rfl⟩
  obtain ⟨o, Ho⟩ : ∃ o, Hid (ordG n ms = o) := ⟨_, rfl⟩
  obtain ⟨z, Hz⟩ : ∃ z, Hid (fac n = z) := ⟨_, rfl⟩
  obtain ⟨r, Hr⟩ : ∃ r, Hid (ms.length = r) := ⟨_, rfl⟩
  rw [HE.out] at E1 HOL
  rw [Ho.out] at HOL hob hk C11
  rw [Hz.out] at E1 C14 C15 hfb
  have hr4 : r ≤ 4 := by rw [← Hr.out]; exact hM.len
  obtain ⟨va, vc, rfl, _⟩ := id hM.sl
  rw [Hr.out] at C9 C10 C11 C12 C13 C14 ⊢
  obtain ⟨ul, Hul⟩ : ∃ ul, Hid (l.length = ul) := ⟨_, rfl⟩
  obtain ⟨ua, uc, rfl, _⟩ := id hu
  rw [Hul.out] at C13 C17 ⊢
  have hk2 : decide (k < 0) = true ∨ (decide (k < 0) = false ∧ decide ((o : Int) ≤ k) = true) := by
    by_cases h : k < 0
    · exact .inl (decide_eq_true h)
    · exact .inr ⟨decide_eq_false h, decide_eq_true (by omega)⟩
  clear hM hu hk h0 hq hll
  rcases hk2 with hk2 | ⟨hk2, hk3⟩
  · go_enter Try.func3, Try.ntmps3
    go_wp2_with (first
      | (go_at_call 9; refine C9.mono ?_; rintro e w1 ⟨rfl, b1⟩)
      | (go_at_call 10; refine (C10 _ b1).mono ?_; rintro e w2 ⟨rfl, b2⟩; replace b2 := Below.next b1 b2)
      | (go_at_call 11; refine (C11 _ b2).mono ?_; rintro e w3 ⟨rfl, b3⟩; replace b3 := Below.next b2 b3)
      | (go_at_call 12; refine (C12 _ b3).mono ?_; rintro e w4 ⟨rfl, b4⟩; replace b4 := Below.next b3 b4)
      | (go_at_call 13; refine (C13 _ b4).mono ?_; rintro e w5 ⟨rfl, b5⟩; replace b5 := Below.next b4 b5)
      | (go_at_call 14; refine (C14 _ b5).mono ?_; rintro e w6 ⟨⟨g, L, rfl, hgb, hO, hg⟩, b6⟩; have HG : Hid (∀ a, a ∈ L ↔ Gen n ms a) := hg; clear hg; replace b6 := Below.next b5 b6)
      | (go_at_call 15; refine (C15 _ _ _ hO).mono ?_; rintro e w7 ⟨⟨lv, rfl, hcy⟩, b7⟩; rw [E1.out L HG.out] at hcy; obtain ⟨la, lc, hle⟩ := hcy.form; rw [HOL.out] at hle; subst hle; replace hO := hO.below b7 hO.lt; replace b7 := Below.next b6 b7)
      | (go_at_call 17; refine (C17 _ b7).mono ?_; rintro e w9 ⟨rfl, b9⟩; replace b9 := Below.next b7 b9))
    go_ret
    exact ⟨rfl, b9⟩
  · go_enter Try.func3, Try.ntmps3
    go_wp2_with (first
      | (go_at_call 9; refine C9.mono ?_; rintro e w1 ⟨rfl, b1⟩)
      | (go_at_call 10; refine (C10 _ b1).mono ?_; rintro e w2 ⟨rfl, b2⟩; replace b2 := Below.next b1 b2)
      | (go_at_call 11; refine (C11 _ b2).mono ?_; rintro e w3 ⟨rfl, b3⟩; replace b3 := Below.next b2 b3)
      | (go_at_call 12; refine (C12 _ b3).mono ?_; rintro e w4 ⟨rfl, b4⟩; replace b4 := Below.next b3 b4)
      | (go_at_call 13; refine (C13 _ b4).mono ?_; rintro e w5 ⟨rfl, b5⟩; replace b5 := Below.next b4 b5)
      | (go_at_call 14; refine (C14 _ b5).mono ?_; rintro e w6 ⟨⟨g, L, rfl, hgb, hO, hg⟩, b6⟩; have HG : Hid (∀ a, a ∈ L ↔ Gen n ms a) := hg; clear hg; replace b6 := Below.next b5 b6)
      | (go_at_call 15; refine (C15 _ _ _ hO).mono ?_; rintro e w7 ⟨⟨lv, rfl, hcy⟩, b7⟩; rw [E1.out L HG.out] at hcy; obtain ⟨la, lc, hle⟩ := hcy.form; rw [HOL.out] at hle; subst hle; replace hO := hO.below b7 hO.lt; replace b7 := Below.next b6 b7)
      | (go_at_call 17; refine (C17 _ b7).mono ?_; rintro e w9 ⟨rfl, b9⟩; replace b9 := Below.next b7 b9))
    go_ret
    exact ⟨rfl, b9⟩

set_option maxRecDepth 100000 in
set_option maxHeartbeats 8000000 in
theorem law3_far_ok (n : Nat) (k : Int) (ms : List (List Nat)) (l : List Nat) (v u : Value) (w : World) (hM : Mk n ms v w) (hk : k < 0 ∨ (ordG n ms : Int) ≤ k) (hu : Sl w u (l.map Int.ofNat)) (hl : IsP n l) :
    Calls Try.prog 3 #[.int .i64 (n : Int), v, u, .int .i64 k] w fun e w' => e = .returned (.bool true) ∧ Below w.heap.size w w' := by
  have C9 := GroupFault_any n _ v w hM.sl.sls (hM.each) (hM.lenI)
  rw [gF_isP hM.n1 hM.n7 hM.len hM.isP] at C9
  have C10 := fun W (h : Below w.heap.size w W) => (hM.below h).check
  have C11 := fun W (h : Below w.heap.size w W) => Order_ok n ms v W (hM.below h)
  have C12 := fun W (h : Below w.heap.size w W) => Element_far n k ms v W (hM.below h) hk
  have hlm : (l.map Int.ofNat).length ≤ maxLen := by rw [List.length_map, hl.len]; have := hM.n7; unfold maxLen; omega
  have C13 := fun W (h : Below w.heap.size w W) => Has_ok n ms v l u W (hM.below h) (hu.below h) hl
  have C17 := fun W (h : Below w.heap.size w W) => MemberFault_any n _ u W (hu.below h) hlm
  rw [mF_isP hM.n7 hl] at C17
  have C18 := fun W (h : Below w.heap.size w W) => RankL_any n l u W hM.n7 (hu.below h) hl
  have HIN : Hid (∀ L, inB n L (rnk n l) = true ↔ l ∈ L) := fun L => inB_at hl
  have hrl := rnk_lt n l
  obtain ⟨q, Hq⟩ : ∃ q, Hid (rnk n l = q) := ⟨_, rfl⟩
  rw [Hq.out] at C18 HIN hrl
  have C14 := fun W (h : Below w.heap.size w W) => Members_any n ms v W hM.n7 hM.n1 (by have := hM.len; omega) (hM.below h).sl hM.isP
  have C15 := fun g L W (h : OwnB W g (fac n) (inB n L)) => ListOf_any n g (inB n L) W hM.n7 hM.n1 h
  have E1 : Hid (∀ L : List (List Nat), (∀ a, a ∈ L ↔ Gen n ms a) → listF n (inB n L) (fac n) = els n (Gen n ms)) := fun L hg => listed hg
  have HOL : Hid ((els n (Gen n ms)).length = ordG n ms) := rfl
  have hob : ordG n ms ≤ 5040 := ord_le' hM.isP hM.n7
  have hfb : fac n ≤ 5040 := by have h := fac_mono hM.n7; have h3 : fac 7 = 5040 := (by decide); omega
  obtain ⟨E, HE⟩ : ∃ E, Hid (els n (Gen n ms) = E) := ⟨_, rfl⟩
  obtain ⟨o, Ho⟩ : ∃ o, Hid (ordG n ms = o) := ⟨_, rfl⟩
  obtain ⟨z, Hz⟩ : ∃ z, Hid (fac n = z) := ⟨_, rfl⟩
  obtain ⟨r, Hr⟩ : ∃ r, Hid (ms.length = r) := ⟨_, rfl⟩
  rw [HE.out] at E1 HOL
  rw [Ho.out] at HOL hob hk C11
  rw [Hz.out] at E1 C14 C15 hfb hrl
  have hr4 : r ≤ 4 := by rw [← Hr.out]; exact hM.len
  obtain ⟨va, vc, rfl, _⟩ := id hM.sl
  rw [Hr.out] at C9 C10 C11 C12 C13 C14 ⊢
  obtain ⟨ua, uc, hue⟩ : ∃ a c, u = .slice a n c := by obtain ⟨a, c, e, _⟩ := hu; exact ⟨a, c, by rw [e, List.length_map, hl.len]⟩
  subst hue
  have hk2 : decide (k < 0) = true ∨ (decide (k < 0) = false ∧ decide ((o : Int) ≤ k) = true) := by
    by_cases h : k < 0
    · exact .inl (decide_eq_true h)
    · exact .inr ⟨decide_eq_false h, decide_eq_true (by omega)⟩
  have hqi : (q : Int) < (z : Int) := by omega
  have hqz : (0 : Int) ≤ (q : Int) := by omega
  clear hM hu hk hl hlm
  rcases hk2 with hk2 | ⟨hk2, hk3⟩
  · go_enter Try.func3, Try.ntmps3
    go_wp2_with (first
      | (go_at_call 9; refine C9.mono ?_; rintro e w1 ⟨rfl, b1⟩)
      | (go_at_call 10; refine (C10 _ b1).mono ?_; rintro e w2 ⟨rfl, b2⟩; replace b2 := Below.next b1 b2)
      | (go_at_call 11; refine (C11 _ b2).mono ?_; rintro e w3 ⟨rfl, b3⟩; replace b3 := Below.next b2 b3)
      | (go_at_call 12; refine (C12 _ b3).mono ?_; rintro e w4 ⟨rfl, b4⟩; replace b4 := Below.next b3 b4)
      | (go_at_call 13; refine (C13 _ b4).mono ?_; rintro e w5 ⟨⟨B, rfl, hB⟩, b5⟩; have HB : Hid (B = true ↔ Gen n ms l) := hB; clear hB; replace b5 := Below.next b4 b5)
      | (go_at_call 14; refine (C14 _ b5).mono ?_; rintro e w6 ⟨⟨g, L, rfl, hgb, hO, hg⟩, b6⟩; have HG : Hid (∀ a, a ∈ L ↔ Gen n ms a) := hg; clear hg; replace b6 := Below.next b5 b6)
      | (go_at_call 15; refine (C15 _ _ _ hO).mono ?_; rintro e w7 ⟨⟨lv, rfl, hcy⟩, b7⟩; rw [E1.out L HG.out] at hcy; obtain ⟨la, lc, hle⟩ := hcy.form; rw [HOL.out] at hle; subst hle; replace hO := hO.below b7 hO.lt; replace b7 := Below.next b6 b7)
      | (go_at_call 17; refine (C17 _ b7).mono ?_; rintro e w9 ⟨rfl, b9⟩; replace hO := hO.below b9 hO.lt; replace b9 := Below.next b7 b9; have hcq := hO.cell q (by omega); obtain ⟨bb, Hbb⟩ : ∃ bb, Hid (inB n L q = bb) := ⟨_, rfl⟩; rw [Hbb.out] at hcq; obtain rfl : B = bb := (by rw [← Hbb.out]; exact Bool.eq_iff_iff.2 (HB.out.trans ((HG.out l).symm.trans (HIN.out L).symm))); have hfq := hO.frozen q; have hgl := hO.lt)
      | (go_at_call 18; refine (C18 _ b9).mono ?_; rintro e w10 ⟨rfl, hw⟩; replace hw := hw.symm; subst hw))
    go_ret
    exact ⟨rfl, b9⟩
  · go_enter Try.func3, Try.ntmps3
    go_wp2_with (first
      | (go_at_call 9; refine C9.mono ?_; rintro e w1 ⟨rfl, b1⟩)
      | (go_at_call 10; refine (C10 _ b1).mono ?_; rintro e w2 ⟨rfl, b2⟩; replace b2 := Below.next b1 b2)
      | (go_at_call 11; refine (C11 _ b2).mono ?_; rintro e w3 ⟨rfl, b3⟩; replace b3 := Below.next b2 b3)
      | (go_at_call 12; refine (C12 _ b3).mono ?_; rintro e w4 ⟨rfl, b4⟩; replace b4 := Below.next b3 b4)
      | (go_at_call 13; refine (C13 _ b4).mono ?_; rintro e w5 ⟨⟨B, rfl, hB⟩, b5⟩; have HB : Hid (B = true ↔ Gen n ms l) := hB; clear hB; replace b5 := Below.next b4 b5)
      | (go_at_call 14; refine (C14 _ b5).mono ?_; rintro e w6 ⟨⟨g, L, rfl, hgb, hO, hg⟩, b6⟩; have HG : Hid (∀ a, a ∈ L ↔ Gen n ms a) := hg; clear hg; replace b6 := Below.next b5 b6)
      | (go_at_call 15; refine (C15 _ _ _ hO).mono ?_; rintro e w7 ⟨⟨lv, rfl, hcy⟩, b7⟩; rw [E1.out L HG.out] at hcy; obtain ⟨la, lc, hle⟩ := hcy.form; rw [HOL.out] at hle; subst hle; replace hO := hO.below b7 hO.lt; replace b7 := Below.next b6 b7)
      | (go_at_call 17; refine (C17 _ b7).mono ?_; rintro e w9 ⟨rfl, b9⟩; replace hO := hO.below b9 hO.lt; replace b9 := Below.next b7 b9; have hcq := hO.cell q (by omega); obtain ⟨bb, Hbb⟩ : ∃ bb, Hid (inB n L q = bb) := ⟨_, rfl⟩; rw [Hbb.out] at hcq; obtain rfl : B = bb := (by rw [← Hbb.out]; exact Bool.eq_iff_iff.2 (HB.out.trans ((HG.out l).symm.trans (HIN.out L).symm))); have hfq := hO.frozen q; have hgl := hO.lt)
      | (go_at_call 18; refine (C18 _ b9).mono ?_; rintro e w10 ⟨rfl, hw⟩; replace hw := hw.symm; subst hw))
    go_ret
    exact ⟨rfl, b9⟩

set_option maxRecDepth 100000 in
set_option maxHeartbeats 8000000 in
theorem law3_in_odd (n : Nat) (k : Nat) (ms : List (List Nat)) (l : List Int) (v u : Value) (w : World) (hM : Mk n ms v w) (hk : k < ordG n ms) (hu : Sl w u l) (hll : l.length ≤ maxLen) (h0 : mF n l ≠ 0) :
    Calls Try.prog 3 #[.int .i64 (n : Int), v, u, .int .i64 (k : Int)] w fun e w' => e = .returned (.bool true) ∧ Below w.heap.size w w' := by
  have C9 := GroupFault_any n _ v w hM.sl.sls (hM.each) (hM.lenI)
  rw [gF_isP hM.n1 hM.n7 hM.len hM.isP] at C9
  have C10 := fun W (h : Below w.heap.size w W) => (hM.below h).check
  have C11 := fun W (h : Below w.heap.size w W) => Order_ok n ms v W (hM.below h)
  obtain ⟨x, hx1, hx2, _⟩ := els_at hk
  have C12 := fun W (h : Below w.heap.size w W) => Element_ok n k ms x v W (hM.below h) hk hx1 hx2
  have HX : Hid ((els n (Gen n ms))[k]? = some x) := hx1
  have hxl : (x.map Int.ofNat).length ≤ maxLen := by rw [List.length_map, hx2.len]; have := hM.n7; unfold maxLen; omega
  have C16 := fun a b W (h1 : Sl W a (x.map Int.ofNat)) (h2 : Sl W b (x.map Int.ofNat)) => ints_any (x.map Int.ofNat) (x.map Int.ofNat) a b W h1 h2 hxl hxl
  have HXN : Hid (x.length = n) := hx2.len
  obtain ⟨q, Hq⟩ : ∃ q, Hid (mF n l = q) := ⟨_, rfl⟩
  have hq : q ≠ 0 := by rw [← Hq.out]; exact h0
  have hqd : (q != 0) = true := by simpa using hq
  have C13 := fun W (h : Below w.heap.size w W) => Has_odd n ms v l u W (hM.below h) (hu.below h) hll q Hq.out hq
  have C17 := fun W (h : Below w.heap.size w W) => MemberFault_any n l u W (hu.below h) hll
  rw [Hq.out] at C17
  have C14 := fun W (h : Below w.heap.size w W) => Members_any n ms v W hM.n7 hM.n1 (by have := hM.len; omega) (hM.below h).sl hM.isP
  have C15 := fun g L W (h : OwnB W g (fac n) (inB n L)) => ListOf_any n g (inB n L) W hM.n7 hM.n1 h
  have E1 : Hid (∀ L : List (List Nat), (∀ a, a ∈ L ↔ Gen n ms a) → listF n (inB n L) (fac n) = els n (Gen n ms)) := fun L hg => listed hg
  have HOL : Hid ((els n (Gen n ms)).length = ordG n ms) := rfl
  have hob : ordG n ms ≤ 5040 := ord_le' hM.isP hM.n7
  have hfb : fac n ≤ 5040 := by have h := fac_mono hM.n7; have h3 : fac 7 = 5040 := (by decide); omega
  obtain ⟨E, HE⟩ : ∃ E, Hid (els n (Gen n ms) = E) := ⟨_, rfl⟩
  obtain ⟨o, Ho⟩ : ∃ o, Hid (ordG n ms = o) := ⟨_, rfl⟩
  obtain ⟨z, Hz⟩ : ∃ z, Hid (fac n = z) := ⟨_, rfl⟩
  obtain ⟨r, Hr⟩ : ∃ r, Hid (ms.length = r) := ⟨_, rfl⟩
  rw [HE.out] at E1 HOL HX
  rw [Ho.out] at HOL hob hk C11
  rw [Hz.out] at E1 C14 C15 hfb
  have hr4 : r ≤ 4 := by rw [← Hr.out]; exact hM.len
  obtain ⟨va, vc, rfl, _⟩ := id hM.sl
  rw [Hr.out] at C9 C10 C11 C12 C13 C14 ⊢
  obtain ⟨ul, Hul⟩ : ∃ ul, Hid (l.length = ul) := ⟨_, rfl⟩
  obtain ⟨ua, uc, rfl, _⟩ := id hu
  rw [Hul.out] at C13 C17 ⊢
  have hk1 : decide ((k : Int) < 0) = false := decide_eq_false (by omega)
  have hk2 : decide ((o : Int) ≤ (k : Int)) = false := decide_eq_false (by omega)
  have hki : (k : Int) < (o : Int) := by omega
  have hkz : (0 : Int) ≤ (k : Int) := by omega
  clear hM hx1 hx2 hxl hu hk h0 hq hll
  go_enter Try.func3, Try.ntmps3
  go_wp2_with (first
    | (go_at_call 9; refine C9.mono ?_; rintro e w1 ⟨rfl, b1⟩)
    | (go_at_call 10; refine (C10 _ b1).mono ?_; rintro e w2 ⟨rfl, b2⟩; replace b2 := Below.next b1 b2)
    | (go_at_call 11; refine (C11 _ b2).mono ?_; rintro e w3 ⟨rfl, b3⟩; replace b3 := Below.next b2 b3)
    | (go_at_call 12; refine (C12 _ b3).mono ?_; rintro e w4 ⟨⟨y, rfl, hy⟩, b4⟩; obtain ⟨ya, yc, hye⟩ : ∃ a c, y = .slice a n c := (by obtain ⟨a, c, e, _⟩ := hy; exact ⟨a, c, by rw [e, List.length_map, HXN.out]⟩); subst hye; replace b4 := Below.next b3 b4)
    | (go_at_call 13; refine (C13 _ b4).mono ?_; rintro e w5 ⟨rfl, b5⟩; replace hy := hy.below b5; replace b5 := Below.next b4 b5)
    | (go_at_call 14; refine (C14 _ b5).mono ?_; rintro e w6 ⟨⟨g, L, rfl, hgb, hO, hg⟩, b6⟩; have HG : Hid (∀ a, a ∈ L ↔ Gen n ms a) := hg; clear hg; replace hy := hy.below b6; replace b6 := Below.next b5 b6)
    | (go_at_call 15; refine (C15 _ _ _ hO).mono ?_; rintro e w7 ⟨⟨lv, rfl, hcy⟩, b7⟩; rw [E1.out L HG.out] at hcy; obtain ⟨la, lc, hle⟩ := hcy.form; rw [HOL.out] at hle; subst hle; replace hO := hO.below b7 hO.lt; replace hy := hy.below b7; replace b7 := Below.next b6 b7; obtain ⟨lb, lo, ux, hla, hlbw, hcx, hsx⟩ := hcy.at HX.out; subst hla; obtain ⟨xa, xc, hxe⟩ : ∃ a c, ux = .slice a n c := (by obtain ⟨a, c, e, _⟩ := hsx; exact ⟨a, c, by rw [e, List.length_map, HXN.out]⟩); subst hxe; clear hcy)
    | (go_at_call 16; refine (C16 _ _ _ hy hsx).mono ?_; rintro e w8 ⟨b, rfl, hb, b8⟩; obtain rfl : b = true := hb.2 trivial; replace hO := hO.below b8 hO.lt; replace b8 := Below.next b7 b8; clear hy hsx hcx)
    | (go_at_call 17; refine (C17 _ b8).mono ?_; rintro e w9 ⟨rfl, b9⟩; replace b9 := Below.next b8 b9))
  go_ret
  exact ⟨rfl, b9⟩

set_option maxRecDepth 100000 in
set_option maxHeartbeats 8000000 in
theorem law3_in_ok (n : Nat) (k : Nat) (ms : List (List Nat)) (l : List Nat) (v u : Value) (w : World) (hM : Mk n ms v w) (hk : k < ordG n ms) (hu : Sl w u (l.map Int.ofNat)) (hl : IsP n l) :
    Calls Try.prog 3 #[.int .i64 (n : Int), v, u, .int .i64 (k : Int)] w fun e w' => e = .returned (.bool true) ∧ Below w.heap.size w w' := by
  have C9 := GroupFault_any n _ v w hM.sl.sls (hM.each) (hM.lenI)
  rw [gF_isP hM.n1 hM.n7 hM.len hM.isP] at C9
  have C10 := fun W (h : Below w.heap.size w W) => (hM.below h).check
  have C11 := fun W (h : Below w.heap.size w W) => Order_ok n ms v W (hM.below h)
  obtain ⟨x, hx1, hx2, _⟩ := els_at hk
  have C12 := fun W (h : Below w.heap.size w W) => Element_ok n k ms x v W (hM.below h) hk hx1 hx2
  have HX : Hid ((els n (Gen n ms))[k]? = some x) := hx1
  have hxl : (x.map Int.ofNat).length ≤ maxLen := by rw [List.length_map, hx2.len]; have := hM.n7; unfold maxLen; omega
  have C16 := fun a b W (h1 : Sl W a (x.map Int.ofNat)) (h2 : Sl W b (x.map Int.ofNat)) => ints_any (x.map Int.ofNat) (x.map Int.ofNat) a b W h1 h2 hxl hxl
  have HXN : Hid (x.length = n) := hx2.len
  have hlm : (l.map Int.ofNat).length ≤ maxLen := by rw [List.length_map, hl.len]; have := hM.n7; unfold maxLen; omega
  have C13 := fun W (h : Below w.heap.size w W) => Has_ok n ms v l u W (hM.below h) (hu.below h) hl
  have C17 := fun W (h : Below w.heap.size w W) => MemberFault_any n _ u W (hu.below h) hlm
  rw [mF_isP hM.n7 hl] at C17
  have C18 := fun W (h : Below w.heap.size w W) => RankL_any n l u W hM.n7 (hu.below h) hl
  have HIN : Hid (∀ L, inB n L (rnk n l) = true ↔ l ∈ L) := fun L => inB_at hl
  have hrl := rnk_lt n l
  obtain ⟨q, Hq⟩ : ∃ q, Hid (rnk n l = q) := ⟨_, rfl⟩
  rw [Hq.out] at C18 HIN hrl
  have C14 := fun W (h : Below w.heap.size w W) => Members_any n ms v W hM.n7 hM.n1 (by have := hM.len; omega) (hM.below h).sl hM.isP
  have C15 := fun g L W (h : OwnB W g (fac n) (inB n L)) => ListOf_any n g (inB n L) W hM.n7 hM.n1 h
  have E1 : Hid (∀ L : List (List Nat), (∀ a, a ∈ L ↔ Gen n ms a) → listF n (inB n L) (fac n) = els n (Gen n ms)) := fun L hg => listed hg
  have HOL : Hid ((els n (Gen n ms)).length = ordG n ms) := rfl
  have hob : ordG n ms ≤ 5040 := ord_le' hM.isP hM.n7
  have hfb : fac n ≤ 5040 := by have h := fac_mono hM.n7; have h3 : fac 7 = 5040 := (by decide); omega
  obtain ⟨E, HE⟩ : ∃ E, Hid (els n (Gen n ms) = E) := ⟨_, rfl⟩
  obtain ⟨o, Ho⟩ : ∃ o, Hid (ordG n ms = o) := ⟨_, rfl⟩
  obtain ⟨z, Hz⟩ : ∃ z, Hid (fac n = z) := ⟨_, rfl⟩
  obtain ⟨r, Hr⟩ : ∃ r, Hid (ms.length = r) := ⟨_, rfl⟩
  rw [HE.out] at E1 HOL HX
  rw [Ho.out] at HOL hob hk C11
  rw [Hz.out] at E1 C14 C15 hfb hrl
  have hr4 : r ≤ 4 := by rw [← Hr.out]; exact hM.len
  obtain ⟨va, vc, rfl, _⟩ := id hM.sl
  rw [Hr.out] at C9 C10 C11 C12 C13 C14 ⊢
  obtain ⟨ua, uc, hue⟩ : ∃ a c, u = .slice a n c := by obtain ⟨a, c, e, _⟩ := hu; exact ⟨a, c, by rw [e, List.length_map, hl.len]⟩
  subst hue
  have hk1 : decide ((k : Int) < 0) = false := decide_eq_false (by omega)
  have hk2 : decide ((o : Int) ≤ (k : Int)) = false := decide_eq_false (by omega)
  have hki : (k : Int) < (o : Int) := by omega
  have hkz : (0 : Int) ≤ (k : Int) := by omega
  have hqi : (q : Int) < (z : Int) := by omega
  have hqz : (0 : Int) ≤ (q : Int) := by omega
  clear hM hx1 hx2 hxl hu hk hl hlm
  go_enter Try.func3, Try.ntmps3
  go_wp2_with (first
    | (go_at_call 9; refine C9.mono ?_; rintro e w1 ⟨rfl, b1⟩)
    | (go_at_call 10; refine (C10 _ b1).mono ?_; rintro e w2 ⟨rfl, b2⟩; replace b2 := Below.next b1 b2)
    | (go_at_call 11; refine (C11 _ b2).mono ?_; rintro e w3 ⟨rfl, b3⟩; replace b3 := Below.next b2 b3)
    | (go_at_call 12; refine (C12 _ b3).mono ?_; rintro e w4 ⟨⟨y, rfl, hy⟩, b4⟩; obtain ⟨ya, yc, hye⟩ : ∃ a c, y = .slice a n c := (by obtain ⟨a, c, e, _⟩ := hy; exact ⟨a, c, by rw [e, List.length_map, HXN.out]⟩); subst hye; replace b4 := Below.next b3 b4)
    | (go_at_call 13; refine (C13 _ b4).mono ?_; rintro e w5 ⟨⟨B, rfl, hB⟩, b5⟩; have HB : Hid (B = true ↔ Gen n ms l) := hB; clear hB; replace hy := hy.below b5; replace b5 := Below.next b4 b5)
    | (go_at_call 14; refine (C14 _ b5).mono ?_; rintro e w6 ⟨⟨g, L, rfl, hgb, hO, hg⟩, b6⟩; have HG : Hid (∀ a, a ∈ L ↔ Gen n ms a) := hg; clear hg; replace hy := hy.below b6; replace b6 := Below.next b5 b6)
    | (go_at_call 15; refine (C15 _ _ _ hO).mono ?_; rintro e w7 ⟨⟨lv, rfl, hcy⟩, b7⟩; rw [E1.out L HG.out] at hcy; obtain ⟨la, lc, hle⟩ := hcy.form; rw [HOL.out] at hle; subst hle; replace hO := hO.below b7 hO.lt; replace hy := hy.below b7; replace b7 := Below.next b6 b7; obtain ⟨lb, lo, ux, hla, hlbw, hcx, hsx⟩ := hcy.at HX.out; subst hla; obtain ⟨xa, xc, hxe⟩ : ∃ a c, ux = .slice a n c := (by obtain ⟨a, c, e, _⟩ := hsx; exact ⟨a, c, by rw [e, List.length_map, HXN.out]⟩); subst hxe; clear hcy)
    | (go_at_call 16; refine (C16 _ _ _ hy hsx).mono ?_; rintro e w8 ⟨b, rfl, hb, b8⟩; obtain rfl : b = true := hb.2 trivial; replace hO := hO.below b8 hO.lt; replace b8 := Below.next b7 b8; clear hy hsx hcx)
    | (go_at_call 17; refine (C17 _ b8).mono ?_; rintro e w9 ⟨rfl, b9⟩; replace hO := hO.below b9 hO.lt; replace b9 := Below.next b8 b9; have hcq := hO.cell q (by omega); obtain ⟨bb, Hbb⟩ : ∃ bb, Hid (inB n L q = bb) := ⟨_, rfl⟩; rw [Hbb.out] at hcq; obtain rfl : B = bb := (by rw [← Hbb.out]; exact Bool.eq_iff_iff.2 (HB.out.trans ((HG.out l).symm.trans (HIN.out L).symm))); have hfq := hO.frozen q; have hgl := hO.lt)
    | (go_at_call 18; refine (C18 _ b9).mono ?_; rintro e w10 ⟨rfl, hw⟩; replace hw := hw.symm; subst hw))
  go_ret
  exact ⟨rfl, b9⟩

theorem law3_any (n k : Int) (ls : List (List Int)) (l : List Int) (v u : Value) (w : World) (hv : Came ls v w) (hu : Sl w u l) (hll : l.length ≤ maxLen) :
    Calls Try.prog 3 #[.int .i64 n, v, u, .int .i64 k] w fun e w' => e = .returned (.bool true) ∧ Below w.heap.size w w' := by
  by_cases h0 : gF n ls = 0
  · obtain ⟨m, ms, rfl, hM, hlen⟩ := hv.mk' h0
    by_cases hk : k < 0 ∨ (ordG m ms : Int) ≤ k
    · by_cases hq : mF m l = 0
      · obtain ⟨l', h1, rfl⟩ := mF_ok hq
        exact law3_far_ok m k ms l' v u w hM hk hu h1
      · exact law3_far_odd m k ms l v u w hM hk hu hll hq
    · obtain ⟨p, rfl⟩ : ∃ p : Nat, k = p := ⟨k.toNat, by omega⟩
      have hk' : p < ordG m ms := by omega
      by_cases hq : mF m l = 0
      · obtain ⟨l', h1, rfl⟩ := mF_ok hq
        exact law3_in_ok m p ms l' v u w hM hk' hu h1
      · exact law3_in_odd m p ms l v u w hM hk' hu hll hq
  · exact law3_bad n k ls v u w hv h0

end Go.Proofs.Ytnbkabggmomhlaa
