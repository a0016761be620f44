/- The walk of the document's on. -/
import Derived.Test.YtagpbkcnjogbgaaX6
import Derived.Test.YtagpbkcnjogbgaaL4
namespace Go.Proofs.Ytagpbkcnjogbgaa
open Go.RowKit Go.Maps

/-- The first of these cells hold these numbers. -/
def OnC (w : World) (g z : Nat) (l : List Nat) : Prop := ∃ f : Nat → Int, Own w g z f ∧ ∀ j, j < l.length → f j = (l.getD j 0 : Int)
theorem OnC.below {w w' : World} {g z : Nat} {l : List Nat} (h : OnC w g z l) (hb : Below w.heap.size w w') : OnC w' g z l := by
  obtain ⟨f, h1, h2⟩ := h
  exact ⟨f, h1.below hb, h2⟩
theorem OnC.cell {w : World} {g z : Nat} {l : List Nat} (h : OnC w g z l) {k : Nat} (hk : k < l.length) (hz : k < z) : w.cell? ⟨g, k, none⟩ = some (.int .i64 (l.getD k 0 : Int)) := by
  obtain ⟨f, h1, h2⟩ := h
  rw [h1.cell k hz, h2 k hk]
theorem OnC.any {w : World} {g z : Nat} {l : List Nat} (h : OnC w g z l) {k : Nat} (hz : k < z) : (∃ x, w.cell? ⟨g, k, none⟩ = some (.int .i64 x)) ∧ w.frozen? ⟨g, k, none⟩ = false := by
  obtain ⟨f, h1, h2⟩ := h
  exact ⟨⟨_, h1.cell k hz⟩, h1.frozen k⟩
theorem OnC.snoc {w : World} {g z : Nat} {l : List Nat} (h : OnC w g z l) (x : Nat) : OnC (w.setCell ⟨g, l.length, none⟩ (.int .i64 (x : Int))) g z (l ++ [x]) := by
  obtain ⟨f, h1, h2⟩ := h
  refine ⟨_, h1.set l.length x, fun j hj => ?_⟩
  rw [List.length_append, List.length_singleton] at hj
  unfold upd
  by_cases e : j = l.length
  · rw [if_pos e, e, getD_right (Nat.le_refl _)]; simp
  · rw [if_neg e, h2 j (by omega), getD_left (by omega)]
theorem OnC.left {w : World} {g z : Nat} {l : List Nat} {x : Nat} (h : OnC w g z (l ++ [x])) : OnC w g z l := by
  obtain ⟨f, h1, h2⟩ := h
  exact ⟨f, h1, fun j hj => by rw [h2 j (by simp; omega), getD_left hj]⟩
theorem gb_set (w : World) (g i : Nat) (v : Value) : w.grownBy (w.setCell ⟨g, i, none⟩ v) (some g) :=
  ⟨rfl, rfl, rfl, by simp, fun j _ hn => heap_setCell_other w ⟨g, i, none⟩ j v fun e => hn (by rw [e])⟩
def stepF (n m : Nat) (l : List Nat) (x : Nat) : Option (List Nat) := if fitB n l x then fillC n m (l ++ [x]) else none
theorem fill_step (n m : Nat) (l : List Nat) : fillC n (m + 1) l = (List.range n).findSome? (stepF n m l) := rfl
theorem fit_no {n : Nat} {l : List Nat} {x k : Nat} (hk : k < l.length) (h : l.getD k 0 = x) (h2 : k / n = l.length / n ∨ k % n = l.length % n) : fitB n l x = false := by
  rw [Bool.eq_false_iff, ne_eq, fitB_iff]
  intro h3
  have := h3 k hk h
  rcases h2 with h2 | h2
  · exact this.1 h2
  · exact this.2 h2

set_option maxRecDepth 100000 in
set_option maxHeartbeats 8000000 in
theorem on_any (n g z : Nat) (h1 : 1 ≤ n) (h8 : n ≤ 8) (Hz : Hid (z = n * n)) : ∀ (m : Nat) (l : List Nat) (w : World), l.length + m = z → OnC w g z l →
    Calls Try.prog 30 #[.int .i64 (n : Int), .slice (some ⟨g, 0, none⟩) z z, .int .i64 (l.length : Int)] w fun e w' => ((fillC n m l = none → e = .returned (.bool false)) ∧ ∀ c, fillC n m l = some c → e = .returned (.bool true) ∧ OnC w' g z c) ∧ OnC w' g z l ∧ w.grownBy w' (some g)
  | 0, l, w, hm, hO => by
    have hz99 : z ≤ 99 := by rw [Hz.out]; exact Nat.le_trans (Nat.mul_le_mul h8 h8) (by decide)
    have hmul : (n : Int) * (n : Int) = (z : Int) := by rw [Hz.out]; simp
    have hlz : l.length = z := by omega
    have hq : ((l.length : Int) == (z : Int)) = true := by simp [hlz]
    have HO : Hid (OnC w g z l) := hO
    clear hO
    go_enter Try.func30, Try.ntmps30
    go_wp2
    go_ret
    exact ⟨⟨fun h => by simp [fillC] at h, fun c hc => by simp only [fillC, Option.some.injEq] at hc; subst hc; exact ⟨rfl, HO.out⟩⟩, HO.out, gb_refl w g⟩
  | m + 1, l, w, hm, hO => by
    have ih := on_any n g z h1 h8 Hz m
    have hz99 : z ≤ 99 := by rw [Hz.out]; exact Nat.le_trans (Nat.mul_le_mul h8 h8) (by decide)
    have hmul : (n : Int) * (n : Int) = (z : Int) := by rw [Hz.out]; simp
    obtain ⟨q, Hq⟩ : ∃ q, Hid (l.length = q) := ⟨_, rfl⟩
    have hqz : q < z := by rw [← Hq.out]; omega
    have Hm : Hid (q + 1 + m = z) := by show _ = _; rw [← Hq.out]; omega
    have hqe : ((q : Int) == (z : Int)) = false := by simp; omega
    have HI : Hid (∀ x W, OnC W g z (l ++ [x]) → Calls Try.prog 30 #[.int .i64 (n : Int), .slice (some ⟨g, 0, none⟩) z z, .int .i64 ((q : Int) + 1)] W fun e w' => ((fillC n m (l ++ [x]) = none → e = .returned (.bool false)) ∧ ∀ c, fillC n m (l ++ [x]) = some c → e = .returned (.bool true) ∧ OnC w' g z c) ∧ OnC w' g z (l ++ [x]) ∧ W.grownBy w' (some g)) := fun x W hW => by
      have := ih (l ++ [x]) W (by simp; omega) hW
      rw [List.length_append, List.length_singleton, Hq.out, Int.natCast_add] at this
      exact this
    obtain ⟨R, HR⟩ : ∃ R, Hid (fillC n (m + 1) l = R) := ⟨_, rfl⟩
    have HR2 : Hid ((List.range n).findSome? (stepF n m l) = R) := HR.out
    rw [HR.out, Hq.out]
    have hdivq : (q : Int) / (n : Int) = ((q / n : Nat) : Int) := by simp
    have hmodq : (q : Int) % (n : Int) = ((q % n : Nat) : Int) := by simp
    obtain ⟨qq, Hqq⟩ : ∃ t, Hid (q / n = t) := ⟨_, rfl⟩
    obtain ⟨rq, Hrq⟩ : ∃ t, Hid (q % n = t) := ⟨_, rfl⟩
    have hqq99 : qq ≤ 99 := by rw [← Hqq.out]; exact Nat.le_trans (Nat.div_le_self _ _) (by omega)
    have hwqq : IntKind.i64.wrap (qq : Int) = (qq : Int) := wrap99 hqq99
    have hrq99 : rq ≤ 99 := by rw [← Hrq.out]; exact Nat.le_trans (Nat.mod_le _ _) (by omega)
    have hwrq : IntKind.i64.wrap (rq : Int) = (rq : Int) := wrap99 hrq99
    rw [Hqq.out] at hdivq
    rw [Hrq.out] at hmodq
    have hn0 : (n : Int) ≠ 0 := by omega
    have hnn : ¬ n = 0 := by omega
    have hnp : (0 : Int) < n := by omega
    have HO : Hid (OnC w g z l) := hO
    clear ih hO hm HR
    go_enter Try.func30, Try.ntmps30
    go_wp2
    go_loopw [7] (fun x_ wr => ∃ x : Nat, x_ = .int .i64 (x : Int) ∧ x ≤ n ∧ Hid (∀ y, y < x → stepF n m l y = none) ∧ Hid (OnC wr g z l) ∧ w.grownBy wr (some g)) (fun i _ => (n - intOf i).toNat)
    case atStart => exact ⟨0, rfl, by omega, (fun y h => by omega : ∀ y, y < 0 → _), HO, gb_refl w g⟩
    case round =>
      clear HO
      obtain ⟨x, rfl, hx, HX, HO, hG⟩ := hrel
      by_cases hlt : x < n
      · have hdx : decide ((x : Int) < (n : Int)) = true := by simp; omega
        go_wp2
        go_loopw [8, 9] (fun ok_ k_ wr => ∃ (ok : Bool) (k : Nat), ok_ = .bool ok ∧ k_ = .int .i64 (k : Int) ∧ k ≤ q ∧ Hid (ok = true → ∀ t, t < k → l.getD t 0 = x → t / n ≠ l.length / n ∧ t % n ≠ l.length % n) ∧ Hid (ok = false → fitB n l x = false) ∧ Hid (OnC wr g z l) ∧ w.grownBy wr (some g)) (fun _ k _ => (q - intOf k).toNat)
        case atStart => exact ⟨true, 0, rfl, rfl, by omega, (fun _ t h => by omega : true = true → ∀ t, t < 0 → _), (fun h => Bool.noConfusion h : true = false → fitB n l x = false), HO, hG⟩
        case round =>
          clear HO hG
          obtain ⟨ok, k, rfl, rfl, hk, HK, HN, HO, hG⟩ := hrel
          by_cases hkl : k < q
          · have hdk : decide ((k : Int) < (q : Int)) = true := by simp; omega
            cases ok with
            | false =>
              have HX2 : Hid (∀ y, y < x + 1 → stepF n m l y = none) := fun y hy => by
                by_cases e : y = x
                · subst e; unfold stepF; rw [HN.out rfl]; rfl
                · exact HX.out y (by omega)
              go_wp2
              go_roundw
              case rel => exact ⟨x + 1, by go_num, by omega, HX2, HO, hG⟩
              case measure => simp [intOf]; omega
            | true =>
              have hki : (k : Int) < z := by omega
              have hck := HO.out.cell (k := k) (by rw [Hq.out]; exact hkl) (by omega)
              obtain ⟨y, Hy⟩ : ∃ y, Hid (l.getD k 0 = y) := ⟨_, rfl⟩
              rw [Hy.out] at hck
              have hdiv2 : (k : Int) / (n : Int) = ((k / n : Nat) : Int) := by simp
              have hmod2 : (k : Int) % (n : Int) = ((k % n : Nat) : Int) := by simp
              obtain ⟨qk, Hqk⟩ : ∃ q, Hid (k / n = q) := ⟨_, rfl⟩
              obtain ⟨rk, Hrk⟩ : ∃ q, Hid (k % n = q) := ⟨_, rfl⟩
              have hqk99 : qk ≤ 99 := by rw [← Hqk.out]; exact Nat.le_trans (Nat.div_le_self _ _) (by omega)
              have hwqk : IntKind.i64.wrap (qk : Int) = (qk : Int) := wrap99 hqk99
              have hrk99 : rk ≤ 99 := by rw [← Hrk.out]; exact Nat.le_trans (Nat.mod_le _ _) (by omega)
              have hwrk : IntKind.i64.wrap (rk : Int) = (rk : Int) := wrap99 hrk99
              rw [Hqk.out] at hdiv2
              rw [Hrk.out] at hmod2
              have Hno : Hid (y = x → (qk = qq ∨ rk = rq) → fitB n l x = false) := fun e1 e2 => by
                refine fit_no (k := k) (by rw [Hq.out]; exact hkl) (by rw [Hy.out]; exact e1) ?_
                rw [Hq.out, Hqk.out, Hrk.out, Hqq.out, Hrq.out]; exact e2
              have HNx : Hid (¬ (y = x ∧ (qk = qq ∨ rk = rq)) → ∀ t, t < k + 1 → l.getD t 0 = x → t / n ≠ l.length / n ∧ t % n ≠ l.length % n) := fun hne t ht e => by
                by_cases et : t = k
                · subst et
                  rw [Hq.out, Hqk.out, Hrk.out, Hqq.out, Hrq.out]
                  rw [Hy.out] at e
                  exact ⟨fun e2 => hne ⟨e, .inl e2⟩, fun e2 => hne ⟨e, .inr e2⟩⟩
                · exact HK.out rfl t (by omega) e
              have HT : Hid (∀ N : Nat, OnC (wr.drewN N) g z l ∧ w.grownBy (wr.drewN N) (some g)) := fun N => ⟨HO.out.below (bdrewN (Below.refl _ _) _), gb_trans hG (gb_below (bdrewN (Below.refl _ _) _))⟩
              clear HK HN
              by_cases hxy : y = x
              · have hbn : ((y : Int) != (x : Int)) = false := by simp; omega
                by_cases hq : qk = qq
                · have hqb : ((qk : Int) != (qq : Int)) = false := by simp; omega
                  have HN2 : Hid (fitB n l x = false) := Hno.out hxy (.inl hq)
                  clear hxy hq HNx Hno
                  go_wp2
                  go_quiet (fail)
                  go_wp2
                  go_roundw
                  case rel => exact ⟨false, k + 1, rfl, by go_num, by omega, (fun h => Bool.noConfusion h : false = true → _), (fun _ => HN2.out : false = false → _), (HT.out _).1, (HT.out _).2⟩
                  case measure => simp [intOf]; omega
                · have hqb : ((qk : Int) != (qq : Int)) = true := by simp; omega
                  by_cases hr : rk = rq
                  · have hrb : ((rk : Int) != (rq : Int)) = false := by simp; omega
                    have HN2 : Hid (fitB n l x = false) := Hno.out hxy (.inr hr)
                    clear hxy hq hr HNx Hno
                    go_wp2
                    go_quiet (fail)
                    go_wp2
                    go_roundw
                    case rel => exact ⟨false, k + 1, rfl, by go_num, by omega, (fun h => Bool.noConfusion h : false = true → _), (fun _ => HN2.out : false = false → _), (HT.out _).1, (HT.out _).2⟩
                    case measure => simp [intOf]; omega
                  · have hrb : ((rk : Int) != (rq : Int)) = true := by simp; omega
                    have HN2 : Hid (∀ t, t < k + 1 → l.getD t 0 = x → t / n ≠ l.length / n ∧ t % n ≠ l.length % n) := HNx.out fun h => h.2.elim hq hr
                    clear hxy hq hr HNx Hno
                    go_wp2
                    go_quiet (fail)
                    go_wp2
                    go_roundw
                    case rel => exact ⟨true, k + 1, rfl, by go_num, by omega, (fun _ => HN2.out : true = true → _), (fun h => Bool.noConfusion h : true = false → _), (HT.out _).1, (HT.out _).2⟩
                    case measure => simp [intOf]; omega
              · have hbn : ((y : Int) != (x : Int)) = true := by simp; omega
                have HN2 : Hid (∀ t, t < k + 1 → l.getD t 0 = x → t / n ≠ l.length / n ∧ t % n ≠ l.length % n) := HNx.out fun h => hxy h.1
                clear hxy HNx Hno
                go_wp2
                go_quiet (fail)
                go_wp2
                go_roundw
                case rel => exact ⟨true, k + 1, rfl, by go_num, by omega, (fun _ => HN2.out : true = true → _), (fun h => Bool.noConfusion h : true = false → _), (HT.out _).1, (HT.out _).2⟩
                case measure => simp [intOf]; omega
          · have hdk : decide ((k : Int) < (q : Int)) = false := by simp; omega
            obtain rfl : k = q := by omega
            cases ok with
            | false =>
              have HX2 : Hid (∀ y, y < x + 1 → stepF n m l y = none) := fun y hy => by
                by_cases e : y = x
                · subst e; unfold stepF; rw [HN.out rfl]; rfl
                · exact HX.out y (by omega)
              go_wp2
              go_roundw
              case rel => exact ⟨x + 1, by go_num, by omega, HX2, HO, hG⟩
              case measure => simp [intOf]; omega
            | true =>
              have hfit : fitB n l x = true := by
                rw [fitB_iff]
                intro t ht e
                exact HK.out rfl t (by rw [← Hq.out]; exact ht) e
              have hst : stepF n m l x = fillC n m (l ++ [x]) := by unfold stepF; rw [if_pos hfit]
              have hki : (k : Int) < z := by omega
              obtain ⟨⟨old, ho1⟩, ho2⟩ := HO.out.any hqz
              have hO2 := HO.out.snoc x
              rw [Hq.out] at hO2
              have D := HI.out x _ hO2
              have hG2 := gb_trans hG (gb_set wr g k (.int .i64 (x : Int)))
              cases hf : fillC n m (l ++ [x]) with
              | none =>
                rw [hf] at hst D
                have HX2 : Hid (∀ y, y < x + 1 → stepF n m l y = none) := fun y hy => by
                  by_cases e : y = x
                  · rw [e]; exact hst
                  · exact HX.out y (by omega)
                have HD : Hid (Calls Try.prog 30 #[.int .i64 (n : Int), .slice (some ⟨g, 0, none⟩) z z, .int .i64 ((k : Int) + 1)] (wr.setCell ⟨g, k, none⟩ (.int .i64 (x : Int))) fun e w' => e = .returned (.bool false) ∧ Hid (OnC w' g z l ∧ w.grownBy w' (some g))) := D.mono fun e w' h => ⟨h.1.1 rfl, ⟨h.2.1.left, gb_trans hG2 h.2.2⟩⟩
                clear D hst hf hfit HK HN hO2 HI HR2 HX
                go_wp2_with (go_at_call 30; refine HD.out.mono ?_; rintro e w5 ⟨rfl, h5⟩)
                go_roundw
                case rel => exact ⟨x + 1, by go_num, by omega, HX2, h5.out.1, h5.out.2⟩
                case measure => simp [intOf]; omega
              | some c =>
                rw [hf] at hst D
                have HRc : Hid (R = some c) := by show _ = _; rw [← HR2.out]; exact fs_at hlt hst HX.out
                have HD : Hid (Calls Try.prog 30 #[.int .i64 (n : Int), .slice (some ⟨g, 0, none⟩) z z, .int .i64 ((k : Int) + 1)] (wr.setCell ⟨g, k, none⟩ (.int .i64 (x : Int))) fun e w' => e = .returned (.bool true) ∧ Hid (OnC w' g z c ∧ OnC w' g z l ∧ w.grownBy w' (some g))) := D.mono fun e w' h => ⟨(h.1.2 c rfl).1, ⟨(h.1.2 c rfl).2, h.2.1.left, gb_trans hG2 h.2.2⟩⟩
                clear D hst hf hfit HK HN hO2 HI HR2 HX
                go_wp2_with (go_at_call 30; refine HD.out.mono ?_; rintro e w5 ⟨rfl, h5⟩)
                go_ret
                exact ⟨⟨fun h => (by rw [HRc.out] at h; cases h), fun d hd => (by rw [HRc.out] at hd; cases hd; exact ⟨rfl, h5.out.1⟩)⟩, h5.out.2.1, h5.out.2.2⟩
      · have hdx : decide ((x : Int) < (n : Int)) = false := by simp; omega
        obtain rfl : x = n := by omega
        have HRn : Hid (R = none) := by show _ = _; rw [← HR2.out]; exact fs_all HX.out
        go_wp2
        go_ret
        exact ⟨⟨fun _ => rfl, fun c hc => (by rw [HRn.out] at hc; cases hc)⟩, HO.out, hG⟩
end Go.Proofs.Ytagpbkcnjogbgaa
