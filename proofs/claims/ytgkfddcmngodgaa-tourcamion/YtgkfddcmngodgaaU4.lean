/- The document's KingsOf, walked. -/
import Derived.Test.YtgkfddcmngodgaaU3
namespace Go.Proofs.Ytgkfddcmngodgaa
open Go.RowKit

/-- Kings, as they are looked for. -/
def thB (t : Nat → Nat → Bool) (a c k : Nat) : Bool := (c == a || t a c) || (List.range k).any fun b => t a b && t b c
def kgB (n : Nat) (t : Nat → Nat → Bool) (a k : Nat) : Bool := (List.range k).all fun c => thB t a c n
def kgL (n : Nat) (t : Nat → Nat → Bool) (k : Nat) : List Nat := (List.range k).filter fun a => kgB n t a n
theorem thB_more (t : Nat → Nat → Bool) (a c k : Nat) : thB t a c (k + 1) = (thB t a c k || (t a k && t k c)) := by
  unfold thB; rw [List.range_succ, List.any_append]; simp [Bool.or_assoc]
theorem thB_zero (t : Nat → Nat → Bool) (a c : Nat) : thB t a c 0 = (c == a || t a c) := by unfold thB; simp
theorem kgB_more (n : Nat) (t : Nat → Nat → Bool) (a k : Nat) : kgB n t a (k + 1) = (kgB n t a k && thB t a k n) := by
  unfold kgB; rw [List.range_succ, List.all_append]; simp
theorem kgL_more (n : Nat) (t : Nat → Nat → Bool) (k : Nat) : kgL n t (k + 1) = kgL n t k ++ if kgB n t k n then [k] else [] := by
  unfold kgL; rw [List.range_succ, List.filter_append]; simp [List.filter_cons]
theorem kgL_le (n : Nat) (t : Nat → Nat → Bool) (k : Nat) : (kgL n t k).length ≤ k := by
  unfold kgL; exact Nat.le_trans (List.length_filter_le _ _) (by simp)
set_option maxRecDepth 100000 in
set_option maxHeartbeats 16000000 in
theorem KingsOf_any {n : Nat} {l : List Int} (hg : GoodT n l) (v : Value) (w : World) (hv : Sl w v l) :
    Calls Try.prog 16 #[.agg #[.int .i64 (n : Int), v]] w fun e w' => (∃ y, e = .returned y ∧ ORow w' w.heap.size y (kgL n (tB n l) n)) ∧ Below w.heap.size w w' := by
  obtain ⟨i3, ki3, kz0, kz1, kz2⟩ := info3
  have hn9 := hg.le
  obtain ⟨t, Ht⟩ : ∃ t, Hid (tB n l = t) := ⟨_, rfl⟩
  rw [Ht.out]
  have CB : ∀ W, Below w.heap.size w W → ∀ a b, a < n → b < n → Calls Try.prog 29 #[.agg #[.int .i64 (n : Int), v], .int .i64 (a : Int), .int .i64 (b : Int)] W fun e w' => e = .returned (.bool (t a b)) ∧ Below W.heap.size W w' := fun W bW a b ha hb => by
    rw [← Ht.out]; exact Beats_any hg v W (hv.below bW) ha hb
  have b1 := balloc w (.cells #[.int .i64 (n : Int), v] 24)
  have HX := sq_cells (n : Int) v w
  obtain ⟨w0, Hw0⟩ : ∃ w0, Hid (w.alloc (.cells #[.int .i64 (n : Int), v] 24) = w0) := ⟨_, rfl⟩
  rw [Hw0.out] at b1 HX
  have HX2 : Hid (∀ W, Below w0.heap.size w0 W → W.cell? ⟨w.heap.size, 0, none⟩ = some (.int .i64 (n : Int)) ∧ W.cell? ⟨w.heap.size, 1, none⟩ = some v) := HX
  have HCB : Hid (∀ W, Below w0.heap.size w0 W → ∀ a b, a < n → b < n → Calls Try.prog 29 #[.agg #[.int .i64 (n : Int), v], .int .i64 (a : Int), .int .i64 (b : Int)] W fun e w' => e = .returned (.bool (t a b)) ∧ Below W.heap.size W w') := fun W bW => CB W (Below.next b1 bW)
  have HB0 : Hid (∀ W, Below w0.heap.size w0 W → Below w.heap.size w W) := fun W b => Below.next b1 b
  have hsz0 : w.heap.size ≤ w0.heap.size := b1.size
  obtain ⟨x0, x1⟩ := HX2.out w0 (Below.refl _ _)
  rw [← Hw0.out] at x0 x1
  clear HX hv b1 hg CB
  go_enter Try.func16, Try.ntmps16
  go_wp2
  rw [Hw0.out]
  go_loopw [3, 4] (fun ov av wr => ∃ (a k : Nat) (oa : Option Addr) (oc : Nat), av = .int .i64 (a : Int) ∧ ov = .slice oa k oc ∧ a ≤ n ∧ k ≤ a ∧ Hid ((kgL n t a).length = k) ∧ wr.ownsRow w0.heap.size 3 1 (.slice oa k oc) k (nz (kgL n t a)) ∧ Below w0.heap.size w0 wr) (fun _ av _ => (n - intOf av).toNat)
  case atStart => exact ⟨0, 0, none, 0, rfl, rfl, by omega, by omega, rfl, World.ownsRow_nil _ _ _ _, Below.refl _ _⟩
  case round =>
    clear x0 x1
    obtain ⟨a, k, oa, oc, rfl, rfl, ha, hka, HK, hown, hB⟩ := hrel
    obtain ⟨x0, x1⟩ := HX2.out wr hB
    by_cases hlt : a < n
    · have hda : decide ((a : Int) < (n : Int)) = true := by simp; omega
      have haa : (a : Int) < (n : Int) := by omega
      go_wp2
      go_loopw [5, 6] (fun kv cv wr => ∃ (c : Nat) (g : Bool), cv = .int .i64 (c : Int) ∧ kv = .bool g ∧ c ≤ n ∧ Hid (kgB n t a c = g) ∧ wr.ownsRow w0.heap.size 3 1 (.slice oa k oc) k (nz (kgL n t a)) ∧ Below w0.heap.size w0 wr) (fun _ cv _ => (n - intOf cv).toNat)
      case atStart => exact ⟨0, true, rfl, rfl, by omega, rfl, hown, hB⟩
      case round =>
        clear x0 x1 hB hown
        obtain ⟨c, g, rfl, rfl, hc, HG, hown, hB⟩ := hrel
        obtain ⟨x0, x1⟩ := HX2.out wr hB
        by_cases hlc : c < n
        · have hdc : decide ((c : Int) < (n : Int)) = true := by simp; omega
          have hcc : (c : Int) < (n : Int) := by omega
          have C1 := HCB.out wr hB a c hlt hlc
          have tz := thB_zero t a c
          obtain ⟨p1, Hp1⟩ : ∃ p, Hid (t a c = p) := ⟨_, rfl⟩
          obtain ⟨p0, Hp0⟩ : ∃ p, Hid ((c == a) = p) := ⟨_, rfl⟩
          have hca : ((c : Int) == (a : Int)) = p0 := by rw [← Hp0.out]; rw [Bool.eq_iff_iff, beq_iff_eq, beq_iff_eq]; omega
          rw [Hp1.out, Hp0.out] at tz
          rw [Hp1.out] at C1
          have TZ : Hid (thB t a c 0 = (p0 || p1)) := tz
          clear tz
          cases p0 <;> cases p1 <;> (
            go_wp2_with (first
              | (go_at_call 29; refine C1.mono ?_; rintro e w5 ⟨rfl, hb5⟩; clear C1; have hB5 := Below.next hB hb5; obtain ⟨x5, z5⟩ := HX2.out w5 hB5; have hown5 := own_keep hown (fun b _ hb => hb5.block b hb))
              | go_in)
            go_loopw [7, 9] (fun tv bv wr => ∃ (b : Nat) (h : Bool), bv = .int .i64 (b : Int) ∧ tv = .bool h ∧ b ≤ n ∧ Hid (thB t a c b = h) ∧ wr.ownsRow w0.heap.size 3 1 (.slice oa k oc) k (nz (kgL n t a)) ∧ Below w0.heap.size w0 wr) (fun _ bv _ => (n - intOf bv).toNat)
            case atStart => exact ⟨0, _, rfl, rfl, by omega, TZ, hown5, hB5⟩
            case round =>
              clear x0 x1 hB hown x5 z5 hB5 hown5 hb5
              obtain ⟨b, h, rfl, rfl, hb, HH, hown, hB⟩ := hrel
              obtain ⟨x0, x1⟩ := HX2.out wr hB
              by_cases hlb : b < n
              · have hdb : decide ((b : Int) < (n : Int)) = true := by simp; omega
                have hbb : (b : Int) < (n : Int) := by omega
                have C2 := HCB.out wr hB a b hlt hlb
                have st := thB_more t a c b
                obtain ⟨p2, Hp2⟩ : ∃ p, Hid (t a b = p) := ⟨_, rfl⟩
                obtain ⟨p3, Hp3⟩ : ∃ p, Hid (t b c = p) := ⟨_, rfl⟩
                rw [Hp2.out, Hp3.out, HH.out] at st
                rw [Hp2.out] at C2
                have ST : Hid (thB t a c (b + 1) = (h || (p2 && p3))) := st
                clear st HH
                cases h <;> cases p2 <;> cases p3 <;> (
                  go_wp2_with (first
                    | (go_at_call 29; refine C2.mono ?_; rintro e w5 ⟨rfl, hb5⟩; clear C2; have hB5 := Below.next hB hb5; obtain ⟨x5, z5⟩ := HX2.out w5 hB5; have C3 := HCB.out w5 hB5 b c hlb hlc; rw [Hp3.out] at C3)
                    | (go_at_call 29; refine C3.mono ?_; rintro e w6 ⟨rfl, hb6⟩; clear C3; have hB6 := Below.next hB5 hb6; have hown6 := own_keep (own_keep hown (fun b _ hb => hb5.block b hb)) (fun b _ hb => hb6.block b hb))
                    | go_in)
                  go_roundw
                  case rel => exact ⟨b + 1, _, by go_num, rfl, by omega, ST, hown6, hB6⟩
                  case measure => simp [intOf]; omega)
              · have hdb : decide ((b : Int) < (n : Int)) = false := by simp; omega
                have hdbn : decide (b < n) = false := by simp; omega
                obtain rfl : b = n := by omega
                have GM : Hid (kgB b t a (c + 1) = (g && h)) := by show _ = _; rw [kgB_more, HG.out, HH.out]
                clear HG HH
                cases g <;> cases h <;> (
                  go_wp2
                  go_roundw
                  case rel => exact ⟨c + 1, _, by go_num, rfl, by omega, GM, hown, hB⟩
                  case measure => simp [intOf]; omega))
        · have hdc : decide ((c : Int) < (n : Int)) = false := by simp; omega
          have hdcn : decide (c < n) = false := by simp; omega
          obtain rfl : c = n := by omega
          have LM := kgL_more c t a
          rw [HG.out] at LM
          have hbz := hB.size
          cases g with
          | false =>
            have LM2 : kgL c t (a + 1) = kgL c t a := by rw [LM]; simp
            go_wp2
            go_roundw
            case rel => exact ⟨a + 1, k, oa, oc, by go_num, rfl, by omega, by omega, (by show _ = _; rw [LM2]; exact HK.out), by rw [LM2]; exact hown, hB⟩
            case measure => simp [intOf]; omega
          | true =>
            have HA : Hid (nz (kgL c t (a + 1)) = nz (kgL c t a) ++ [.int .i64 (a : Int)]) := by show _ = _; rw [LM, if_pos rfl, nz_more]
            have HK2 : Hid ((kgL c t (a + 1)).length = k + 1) := by show _ = _; rw [LM, if_pos rfl, List.length_append, HK.out]; rfl
            clear LM
            go_wp2_with (first
              | (at_builtin; refine wpList_append_own _ rfl _ _ 22 rfl w0.heap.size 3 i3 (.int .i64 0) 1 8 und22 ki3 kz0 kz1 kz2 rfl (by decide) _ _ _ rfl (hown.alloc _) ⟨wr.heap.size, 0, none⟩ 1 1 [.int .i64 (a : Int)] rfl rfl ?c1 ?c2 ?c3 ?c4 ?c5 ?_)
              | go_in)
            case c1 =>
              intro j u hj
              match j, hj with
              | 0, hj => simp at hj; subst hj; simp [Addr.add]
            case c2 => intro u hu; simp at hu; subst hu; rfl
            case c3 => unfold maxLen; omega
            case c4 => omega
            case c5 => simp; omega
            · intro v' w6 hown' hgrow _
              have hb6 : Below w0.heap.size w0 w6 := (hB.alloc hbz _).grown hgrow (by simp; omega) (fun k hk => (hown.lt k hk).1)
              rw [← HA.out] at hown'
              obtain ⟨xa, xc, rfl⟩ := own_form hown'
              go_wp2
              go_roundw
              case rel => exact ⟨a + 1, k + 1, xa, xc, by go_num, rfl, by omega, by omega, HK2, hown', hb6⟩
              case measure => simp [intOf]; omega
    · have hda : decide ((a : Int) < (n : Int)) = false := by simp; omega
      have hdan : decide (a < n) = false := by simp; omega
      obtain rfl : a = n := by omega
      go_wp2
      go_ret
      exact ⟨⟨_, rfl, by unfold ORow; rw [HK.out]; exact own_low' hown hsz0⟩, HB0.out _ hB⟩
end Go.Proofs.Ytgkfddcmngodgaa
