/- The law GroupDivides, walked. -/
import Derived.Test.YtnbkabggmomhlaaG28
import Derived.Test.YtnbkabggmomhlaaGLM
namespace Go.Proofs.Ytnbkabggmomhlaa
open Go.RowKit Go.Maps

theorem Mk.take {n : Nat} {ms : List (List Nat)} {a : Option Addr} {l c k : Nat} {w : World} (h : Mk n ms (.slice a l c) w) (hk : k ≤ ms.length) : Mk n (ms.take k) (.slice a k c) w := by
  refine ⟨h.n1, h.n7, by rw [List.length_take]; have := h.len; omega, fun m hm => h.isP m (List.mem_of_mem_take hm), ?_⟩
  obtain ⟨a', c', e, hr⟩ := h.sl
  cases e
  refine ⟨a, c, by rw [List.length_take, Nat.min_eq_left hk], fun i l hl => hr i l ?_⟩
  rw [List.getElem?_take] at hl
  split at hl
  · exact hl
  · cases hl
set_option maxRecDepth 100000 in
set_option maxHeartbeats 4000000 in
theorem law6_any (n part : Int) (ls : List (List Int)) (v : Value) (w : World) (hv : Came ls v w) :
    Calls Try.prog 6 #[.int .i64 n, v, .int .i64 part] w fun e w' => e = .returned (.bool true) ∧ Below w.heap.size w w' := by
  have C0 := lmade_any w
  by_cases h0 : gF n ls = 0
  · obtain ⟨k, ms, rfl, hM, hlen⟩ := hv.mk' h0
    obtain ⟨a, cap, rfl, _⟩ := id hM.sl
    obtain ⟨r, Hr⟩ : ∃ r, Hid (ms.length = r) := ⟨_, rfl⟩
    have hr4 := hM.len
    have hk12 : k ≤ 12 := by have := hM.n7; omega
    have hcap : ms.length ≤ cap := hv.cap
    have hnil : a = none → ms.length = 0 := fun e => by
      subst e
      obtain ⟨a', c', e', hr'⟩ := hM.sl
      cases e'
      cases ms with
      | nil => rfl
      | cons m ms => obtain ⟨b, off, u, e2, _⟩ := hr' 0 m rfl; cases e2
    obtain ⟨q, Hq, hqr⟩ : ∃ q : Nat, Hid ((q : Int) = if 0 ≤ part ∧ part < (ms.length : Int) then part else (ms.length : Int)) ∧ q ≤ ms.length := by
      by_cases h : 0 ≤ part ∧ part < (ms.length : Int)
      · exact ⟨part.toNat, (by rw [if_pos h]; omega : ((part.toNat : Nat) : Int) = _), by omega⟩
      · exact ⟨ms.length, (by rw [if_neg h] : ((ms.length : Nat) : Int) = _), Nat.le_refl _⟩
    have C1 := fun W (h : Below w.heap.size w W) => Order_ok k ms _ W (hM.below h)
    have C2 := fun W (h : Below w.heap.size w W) => Order_ok k (ms.take q) _ W ((hM.take hqr).below h)
    have C3 := fun W (h : Below w.heap.size w W) => Centre_ok k ms _ W (hM.below h)
    have C4 := fun W (h : Below w.heap.size w W) => Derived_ok k ms _ W (hM.below h)
    have C5 := fun W => Factorial_any k W hk12
    have hp2 : ∀ m ∈ ms.take q, IsP k m := fun m hm => hM.isP m (List.mem_of_mem_take hm)
    have ho := ord_le hM.isP hM.n7
    have hp := ord_le hp2 hM.n7
    have hc := cen_dvd hM.isP
    have hf : ordG k ms ∣ fac k := order_fac (gen_grp hM.isP)
    have hpd : ordG k (ms.take q) ∣ ordG k ms := lagrange (gen_grp hM.isP) (gen_grp hp2) (fun a ha => ha.mono fun m hm => List.mem_of_mem_take hm)
    have hfb : fac k ≤ 479001600 := fac_le (by omega)
    have HD : Hid (∀ d, DerIs k ms d → d ∣ ordG k ms ∧ 0 < d) := fun d hd => hd.dvd hM.isP
    rw [Hr.out] at hr4 hqr hcap hnil Hq C1 C3 C4 ⊢
    obtain ⟨o, Ho⟩ : ∃ o, Hid (ordG k ms = o) := ⟨_, rfl⟩
    obtain ⟨p, Hp⟩ : ∃ p, Hid (ordG k (ms.take q) = p) := ⟨_, rfl⟩
    obtain ⟨c, Hc⟩ : ∃ c, Hid (cenG k ms = c) := ⟨_, rfl⟩
    obtain ⟨f, Hf⟩ : ∃ f, Hid (fac k = f) := ⟨_, rfl⟩
    rw [Ho.out] at C1 ho hc hf hpd HD
    rw [Hp.out] at C2 hp hpd
    rw [Hc.out] at C3 hc
    rw [Hf.out] at C5 hf hfb
    have hm1 := dvd_mod hf
    have hm2 := dvd_mod hpd
    have hm3 := dvd_mod hc.1
    have hc0 := hc.2
    have hcle := Nat.le_of_dvd (by omega) hc.1
    clear hv h0 hlen hM hp2 hf hpd hc
    have hri : (r : Int) ≤ (cap : Int) := by omega
    have hqi : (q : Int) ≤ (cap : Int) := by omega
    cases a with
    | none =>
      obtain rfl : r = 0 := hnil rfl
      obtain rfl : q = 0 := by omega
      by_cases h1 : part < 0
      · have hd1 : decide (0 ≤ part) = false := decide_eq_false (by omega)
        clear Hq
        go_enter Try.func6, Try.ntmps6
        go_wp2_with (first
          | (go_at_call 32; refine C0.mono ?_; rintro e w1 ⟨rfl, b1⟩)
          | (go_at_call 11; refine (C1 _ b1).mono ?_; rintro e w2 ⟨rfl, b2⟩; clear C1; replace b2 := Below.next b1 b2)
          | (go_at_call 33; refine (C5 _).mono ?_; rintro e w3 ⟨rfl, h3⟩; replace h3 := h3.symm; subst h3)
          | (go_at_call 11; refine (C2 _ b2).mono ?_; rintro e w4 ⟨rfl, b4⟩; clear C2; replace b4 := Below.next b2 b4)
          | (go_at_call 28; refine (C3 _ b4).mono ?_; rintro e w5 ⟨rfl, b5⟩; replace b5 := Below.next b4 b5)
          | (go_at_call 29; refine (C4 _ b5).mono ?_; rintro e w6 ⟨⟨d, rfl, hd⟩, b6⟩; replace b6 := Below.next b5 b6; have hdd := HD.out d hd; have hm4 := dvd_mod hdd.1; have hd0 := hdd.2; have hdle := Nat.le_of_dvd (by omega) hdd.1; clear hdd hd))
        go_ret
        exact ⟨rfl, b6⟩
      · have hd1 : decide (0 ≤ part) = true := decide_eq_true (by omega)
        have hd2 : decide (part < 0) = false := decide_eq_false h1
        clear Hq
        go_enter Try.func6, Try.ntmps6
        go_wp2_with (first
          | (go_at_call 32; refine C0.mono ?_; rintro e w1 ⟨rfl, b1⟩)
          | (go_at_call 11; refine (C1 _ b1).mono ?_; rintro e w2 ⟨rfl, b2⟩; clear C1; replace b2 := Below.next b1 b2)
          | (go_at_call 33; refine (C5 _).mono ?_; rintro e w3 ⟨rfl, h3⟩; replace h3 := h3.symm; subst h3)
          | (go_at_call 11; refine (C2 _ b2).mono ?_; rintro e w4 ⟨rfl, b4⟩; clear C2; replace b4 := Below.next b2 b4)
          | (go_at_call 28; refine (C3 _ b4).mono ?_; rintro e w5 ⟨rfl, b5⟩; replace b5 := Below.next b4 b5)
          | (go_at_call 29; refine (C4 _ b5).mono ?_; rintro e w6 ⟨⟨d, rfl, hd⟩, b6⟩; replace b6 := Below.next b5 b6; have hdd := HD.out d hd; have hm4 := dvd_mod hdd.1; have hd0 := hdd.2; have hdle := Nat.le_of_dvd (by omega) hdd.1; clear hdd hd))
        go_ret
        exact ⟨rfl, b6⟩
    | some ad =>
      clear hnil
      by_cases h1 : part < 0
      · have hd1 : decide (0 ≤ part) = false := decide_eq_false (by omega)
        obtain rfl : q = r := by have := Hq.out; rw [if_neg (by omega)] at this; omega
        clear Hq
        go_enter Try.func6, Try.ntmps6
        go_wp2_with (first
          | (go_at_call 32; refine C0.mono ?_; rintro e w1 ⟨rfl, b1⟩)
          | (go_at_call 11; refine (C1 _ b1).mono ?_; rintro e w2 ⟨rfl, b2⟩; clear C1; replace b2 := Below.next b1 b2)
          | (go_at_call 33; refine (C5 _).mono ?_; rintro e w3 ⟨rfl, h3⟩; replace h3 := h3.symm; subst h3)
          | (go_at_call 11; refine (C2 _ b2).mono ?_; rintro e w4 ⟨rfl, b4⟩; clear C2; replace b4 := Below.next b2 b4)
          | (go_at_call 28; refine (C3 _ b4).mono ?_; rintro e w5 ⟨rfl, b5⟩; replace b5 := Below.next b4 b5)
          | (go_at_call 29; refine (C4 _ b5).mono ?_; rintro e w6 ⟨⟨d, rfl, hd⟩, b6⟩; replace b6 := Below.next b5 b6; have hdd := HD.out d hd; have hm4 := dvd_mod hdd.1; have hd0 := hdd.2; have hdle := Nat.le_of_dvd (by omega) hdd.1; clear hdd hd))
        go_ret
        exact ⟨rfl, b6⟩
      · have hd1 : decide (0 ≤ part) = true := decide_eq_true (by omega)
        by_cases h2 : part < (r : Int)
        · obtain rfl : part = (q : Int) := by have := Hq.out; rw [if_pos ⟨by omega, h2⟩] at this; omega
          have hd2 : decide ((q : Int) < (r : Int)) = true := decide_eq_true h2
          have hq0 : (0 : Int) ≤ (q : Int) := by omega
          clear Hq
          go_enter Try.func6, Try.ntmps6
          go_wp2_with (first
            | (go_at_call 32; refine C0.mono ?_; rintro e w1 ⟨rfl, b1⟩)
            | (go_at_call 11; refine (C1 _ b1).mono ?_; rintro e w2 ⟨rfl, b2⟩; clear C1; replace b2 := Below.next b1 b2)
            | (go_at_call 33; refine (C5 _).mono ?_; rintro e w3 ⟨rfl, h3⟩; replace h3 := h3.symm; subst h3)
            | (go_at_call 11; refine (C2 _ b2).mono ?_; rintro e w4 ⟨rfl, b4⟩; clear C2; replace b4 := Below.next b2 b4)
            | (go_at_call 28; refine (C3 _ b4).mono ?_; rintro e w5 ⟨rfl, b5⟩; replace b5 := Below.next b4 b5)
            | (go_at_call 29; refine (C4 _ b5).mono ?_; rintro e w6 ⟨⟨d, rfl, hd⟩, b6⟩; replace b6 := Below.next b5 b6; have hdd := HD.out d hd; have hm4 := dvd_mod hdd.1; have hd0 := hdd.2; have hdle := Nat.le_of_dvd (by omega) hdd.1; clear hdd hd))
          go_ret
          exact ⟨rfl, b6⟩
        · obtain rfl : q = r := by have := Hq.out; rw [if_neg (by omega)] at this; omega
          have hd2 : decide (part < (q : Int)) = false := decide_eq_false h2
          clear Hq
          go_enter Try.func6, Try.ntmps6
          go_wp2_with (first
            | (go_at_call 32; refine C0.mono ?_; rintro e w1 ⟨rfl, b1⟩)
            | (go_at_call 11; refine (C1 _ b1).mono ?_; rintro e w2 ⟨rfl, b2⟩; clear C1; replace b2 := Below.next b1 b2)
            | (go_at_call 33; refine (C5 _).mono ?_; rintro e w3 ⟨rfl, h3⟩; replace h3 := h3.symm; subst h3)
            | (go_at_call 11; refine (C2 _ b2).mono ?_; rintro e w4 ⟨rfl, b4⟩; clear C2; replace b4 := Below.next b2 b4)
            | (go_at_call 28; refine (C3 _ b4).mono ?_; rintro e w5 ⟨rfl, b5⟩; replace b5 := Below.next b4 b5)
            | (go_at_call 29; refine (C4 _ b5).mono ?_; rintro e w6 ⟨⟨d, rfl, hd⟩, b6⟩; replace b6 := Below.next b5 b6; have hdd := HD.out d hd; have hm4 := dvd_mod hdd.1; have hd0 := hdd.2; have hdle := Nat.le_of_dvd (by omega) hdd.1; clear hdd hd))
          go_ret
          exact ⟨rfl, b6⟩
  · obtain ⟨z, Hz⟩ : ∃ z, Hid (gF n ls = z) := ⟨_, rfl⟩
    have hz : z ≠ 0 := by rw [← Hz.out]; exact h0
    have C1 := fun W (h : Below w.heap.size w W) => Order_bad n ls v W (hv.below h).sls hv.each hv.len z Hz.out hz
    have hzd : (z != 0) = true := by simpa using hz
    obtain ⟨a, cap, rfl, _⟩ := hv.sls
    clear hv h0 hz
    go_enter Try.func6, Try.ntmps6
    go_wp2_with (first
      | (go_at_call 32; refine C0.mono ?_; rintro e w1 ⟨rfl, b1⟩)
      | (go_at_call 11; refine (C1 _ b1).mono ?_; rintro e w2 ⟨rfl, b2⟩; replace b2 := Below.next b1 b2))
    go_ret
    exact ⟨rfl, b2⟩

end Go.Proofs.Ytnbkabggmomhlaa
