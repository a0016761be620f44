/- The law PermTurned, walked. -/
import Derived.Test.YteocfkkdjejgdabP10
import Derived.Test.YteocfkkdjejgdabP26
import Derived.Test.YteocfkkdjejgdabP36
namespace Go.Proofs.Yteocfkkdjejgdab
open Go.RowKit

theorem conj_itr {n : Nat} {a c : Nat → Nat} (P : Pm n a) (Q : Pm n c) (k : Nat) {x : Nat} (hx : x < n) : itr (fun i => c (a (iv c i))) k (c x) = c (itr a k x) := by
  induction k with
  | zero => rfl
  | succ k ih =>
    show c (a (iv c (itr (fun i => c (a (iv c i))) k (c x)))) = c (a (itr a k x))
    rw [ih, Q.iv_f (P.itr_lt hx k)]
theorem conj_pm {n : Nat} {a c : Nat → Nat} (P : Pm n a) (Q : Pm n c) : Pm n (fun i => c (a (iv c i))) := (Q.iv_pm.comp P).comp Q
theorem conj_per {n : Nat} {a c : Nat → Nat} (P : Pm n a) (Q : Pm n c) {x : Nat} (hx : x < n) : per (fun i => c (a (iv c i))) (c x) = per a x := by
  have h : ∀ N, per (fun i => c (a (iv c i))) (c x) ∣ N ↔ per a x ∣ N := by
    intro N
    rw [← (conj_pm P Q).dvd (Q.lt x hx), ← P.dvd hx, conj_itr P Q N hx]
    exact ⟨fun h => Q.inj _ _ (P.itr_lt hx N) hx h, fun h => by rw [h]⟩
  exact Nat.dvd_antisymm ((h _).2 (Nat.dvd_refl _)) ((h _).1 (Nat.dvd_refl _))
theorem conj_alike {n : Nat} {a c : Nat → Nat} (P : Pm n a) (Q : Pm n c) : alikeB n a (fun i => c (a (iv c i))) = true := by
  rw [alikeB_iff]
  intro L _
  have R := conj_pm P Q
  have h1 := P.lens_count L
  have h2 := R.lens_count L
  rw [← Q.map_range.countP_eq, List.countP_map] at h2
  have e : (List.range n).countP ((fun x => per (fun i => c (a (iv c i))) x == L) ∘ c) = (List.range n).countP (fun x => per a x == L) := List.countP_congr fun x hx => by
    show (per (fun i => c (a (iv c i))) (c x) == L) = true ↔ _
    rw [conj_per P Q (List.mem_range.1 hx)]
  rw [e, h1] at h2
  rcases Nat.eq_zero_or_pos L with h0 | h0
  · subst h0; rw [kn_zero P, kn_zero R]
  · exact Nat.eq_of_mul_eq_mul_left h0 h2
theorem pow_round {n : Nat} {f : Nat → Nat} (P : Pm n f) {o : Nat} (ho : OrdIs n f o) (N : Int) : pl n (powF f N) = pl n (powF f (N + (o : Int))) := by
  refine pl_congr fun x hx => ?_
  rw [P.pow_ord ho N hx, P.pow_ord ho _ hx, Int.add_emod_right]

set_option maxRecDepth 100000 in
set_option maxHeartbeats 2000000 in
theorem law3_any (N : Int) (l m : List Int) (v u : Value) (w : World) (hl : Sl w v l) (hll : l.length ≤ maxLen) (hm : Sl w u m) (hml : m.length ≤ maxLen) :
    Calls Try.prog 3 #[v, u, .int .i64 N] w fun e w' => e = .returned (.bool true) ∧ Below w.heap.size w w' := by
  have C0 := turns_any w
  obtain ⟨z, Hz⟩ : ∃ z, Hid (pF m = z) := ⟨_, rfl⟩
  by_cases hz : z = 0
  · obtain ⟨n, c, hn, Q, rfl⟩ := pF_ok (by rw [Hz.out]; exact hz : pF m = 0)
    have C1 := fun A (h : Below w.heap.size w A) => Inverse_ok n c u A hn (hm.below h) Q
    obtain ⟨t, Ht⟩ : ∃ t, Hid (p2F (pl n (iv c)) l = t) := ⟨_, rfl⟩
    by_cases ht : t = 0
    · obtain ⟨n', g', a, _, _, P, e1, rfl⟩ := p2F_ok (by rw [Ht.out]; exact ht : p2F (pl n (iv c)) l = 0)
      have hn' : n = n' := by have := congrArg List.length e1; simpa using this
      subst hn'
      have C2 := fun A y (h : Below w.heap.size w A) (hy : Sl A y (pl n (iv c))) => Compose_ok n (iv c) a y v A hn hy (hl.below h) Q.iv_pm P
      have C3 := fun A y (h : Below w.heap.size w A) (hy : Sl A y (pl n fun i => a (iv c i))) => Compose_ok n _ c y u A hn hy (hm.below h) (Q.iv_pm.comp P) Q
      have C4 := fun A y (h : Below w.heap.size w A) (hy : Sl A y (pl n fun i => c (a (iv c i)))) => Alike_ok n a _ v y A hn (hl.below h) hy P (conj_pm P Q)
      rw [conj_alike P Q] at C4
      have C5 := fun A (h : Below w.heap.size w A) => Order_ok n a v A hn (hl.below h) P
      have htb := tmod_bd N 1000000 (by omega)
      obtain ⟨T, HT⟩ : ∃ T, Hid (N.tmod 1000000 = T) := ⟨_, rfl⟩
      have htm := HT.out
      rw [htm] at htb
      obtain ⟨ht1, ht2⟩ := htb
      have C6 := fun A (h : Below w.heap.size w A) => Power_ok n a T v A hn (hl.below h) P (by omega) (by omega)
      have C7 := fun A (o : Nat) (ho : o ≤ 27720) (h : Below w.heap.size w A) => Power_ok n a (T + (o : Int)) v A hn (hl.below h) P (by omega) (by omega)
      have C8 := fun A y y' (o : Nat) (ho : OrdIs n a o) (h1 : Sl A y (pl n (powF a T))) (h2 : Sl A y' (pl n (powF a (T + (o : Int))))) => ints_yes _ _ y y' A h1 h2 (by rw [pl_len]; omega) (pow_round P ho T)
      clear P Q hl hm e1 hz ht
      go_enter Try.func3, Try.ntmps3
      go_wp2_with (first
        | (go_at_call 4; refine C0.mono ?_; rintro e w0 ⟨rfl, b0⟩)
        | (go_at_call 5; refine (C1 _ b0).mono ?_; rintro e w1 ⟨y1, rfl, hy1, b1⟩; replace b1 := Below.next b0 b1)
        | (go_at_call 6; refine (C2 _ _ b1 hy1).mono ?_; rintro e w2 ⟨y2, rfl, hy2, b2⟩; clear C2; replace b2 := Below.next b1 b2)
        | (go_at_call 6; refine (C3 _ _ b2 hy2).mono ?_; rintro e w3 ⟨y3, rfl, hy3, b3⟩; replace b3 := Below.next b2 b3)
        | (go_at_call 7; refine (C4 _ _ b3 hy3).mono ?_; rintro e w4 ⟨rfl, b4⟩; replace b4 := Below.next b3 b4)
        | (go_at_call 8; refine (C5 _ b4).mono ?_; rintro e w5 ⟨o, rfl, ho1, ho2, b5⟩; replace b5 := Below.next b4 b5; have ho3 : (1 : Int) ≤ (o : Int) := (by have := ho1.1; omega); have ho4 : decide ((o : Int) < 1) = false := (by simp; omega); replace ho1 : Hid (OrdIs n a o) := ho1)
        | (go_at_call 9; refine (C6 _ b5).mono ?_; rintro e w6 ⟨y6, rfl, hy6, b6⟩; clear C6; replace b6 := Below.next b5 b6)
        | (go_at_call 9; refine (C7 _ o ho2 b6).mono ?_; rintro e w7 ⟨y7, rfl, hy7, b7⟩; replace hy6 := hy6.below b7; replace b7 := Below.next b6 b7)
        | (go_at_call 10; refine (C8 _ _ _ o ho1.out hy6 hy7).mono ?_; rintro e w8 ⟨rfl, b8⟩))
      go_ret
      exact ⟨rfl, Below.next b7 b8⟩
    · have C2 := fun A y (h : Below w.heap.size w A) (hy : Sl A y (pl n (iv c))) => Compose_bad (pl n (iv c)) l y v A hy (hl.below h) (by rw [pl_len]; unfold maxLen; omega) hll t Ht.out ht
      have htd : (t != 0) = true := by simpa using ht
      clear ht hz Q
      go_enter Try.func3, Try.ntmps3
      go_wp2_with (first
        | (go_at_call 4; refine C0.mono ?_; rintro e w0 ⟨rfl, b0⟩)
        | (go_at_call 5; refine (C1 _ b0).mono ?_; rintro e w1 ⟨y1, rfl, hy1, b1⟩; replace b1 := Below.next b0 b1)
        | (go_at_call 6; refine (C2 _ _ b1 hy1).mono ?_; rintro e w2 ⟨rfl, b2⟩; clear C2; replace b2 := Below.next b1 b2))
      go_ret
      exact ⟨rfl, b2⟩
  · have C1 := fun A (h : Below w.heap.size w A) => Inverse_bad m u A (hm.below h) hml z Hz.out hz
    have hzd : (z != 0) = true := by simpa using hz
    clear hz
    go_enter Try.func3, Try.ntmps3
    go_wp2_with (first
      | (go_at_call 4; refine C0.mono ?_; rintro e w0 ⟨rfl, b0⟩)
      | (go_at_call 5; refine (C1 _ b0).mono ?_; rintro e w1 ⟨rfl, b1⟩; replace b1 := Below.next b0 b1))
    go_ret
    exact ⟨rfl, b1⟩

end Go.Proofs.Yteocfkkdjejgdab
