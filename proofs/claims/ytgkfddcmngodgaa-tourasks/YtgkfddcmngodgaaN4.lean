/- The program's kings, walked. -/
import Derived.Test.YtgkfddcmngodgaaN3
namespace Go.Proofs.Ytgkfddcmngodgaa
open Go.RowKit

def byB (t : Nat → Nat → Bool) (a c k : Nat) : Bool := (List.range k).any fun b => t a b && t b c
theorem byB_more (t : Nat → Nat → Bool) (a c k : Nat) : byB t a c (k + 1) = (byB t a c k || (t a k && t k c)) := by
  unfold byB; rw [List.range_succ, List.any_append]; simp
theorem byB_yes {t : Nat → Nat → Bool} {a c k n : Nat} (hk : k < n) (h : (t a k && t k c) = true) : byB t a c n = true := by
  unfold byB; rw [List.any_eq_true]; exact ⟨k, List.mem_range.2 hk, h⟩
theorem thB_by (t : Nat → Nat → Bool) (a c k : Nat) : thB t a c k = ((c == a || t a c) || byB t a c k) := rfl
theorem kgB_no {n : Nat} {t : Nat → Nat → Bool} {a c : Nat} (hc : c < n) (h : thB t a c n = false) : kgB n t a n = false := by
  cases e : kgB n t a n with
  | false => rfl
  | true =>
    unfold kgB at e
    rw [List.all_eq_true] at e
    rw [e c (List.mem_range.2 hc)] at h
    cases h
set_option maxRecDepth 100000 in
set_option maxHeartbeats 16000000 in
theorem beatsByOne_any {n : Nat} {l : List Int} (hg : GoodT n l) (v : Value) (w : World) (hv : Sl w v l) {a c : Nat} (ha : a < n) (hc : c < n) :
    Calls Try.prog 48 #[.agg #[.int .i64 (n : Int), v], .int .i64 (a : Int), .int .i64 (c : Int)] w fun e w' => e = .returned (.bool (byB (tB n l) a c n)) ∧ Below w.heap.size w w' := by
  have hn9 := hg.le
  obtain ⟨t, Ht⟩ : ∃ t, Hid (tB n l = t) := ⟨_, rfl⟩
  rw [Ht.out]
  have CB : ∀ W, Below w.heap.size w W → ∀ a b, a < n → b < n → Calls Try.prog 40 #[.agg #[.int .i64 (n : Int), v], .int .i64 (a : Int), .int .i64 (b : Int)] W fun e w' => e = .returned (.bool (t a b)) ∧ Below W.heap.size W w' := fun W bW a b ha hb => by rw [← Ht.out]; exact beats_any hg.one hg.le hg.len v W (hv.below bW) ha hb
  have b1 := balloc w (.cells #[.int .i64 (n : Int), v] 24)
  have HX := sq_cells (n : Int) v w
  obtain ⟨w0, Hw0⟩ : ∃ w0, Hid (w.alloc (.cells #[.int .i64 (n : Int), v] 24) = w0) := ⟨_, rfl⟩
  rw [Hw0.out] at b1 HX
  have HX2 : Hid (∀ W, Below w0.heap.size w0 W → W.cell? ⟨w.heap.size, 0, none⟩ = some (.int .i64 (n : Int)) ∧ W.cell? ⟨w.heap.size, 1, none⟩ = some v) := HX
  have HCB : Hid (∀ W, Below w0.heap.size w0 W → ∀ a b, a < n → b < n → Calls Try.prog 40 #[.agg #[.int .i64 (n : Int), v], .int .i64 (a : Int), .int .i64 (b : Int)] W fun e w' => e = .returned (.bool (t a b)) ∧ Below W.heap.size W w') := fun W bW => CB W (Below.next b1 bW)
  have HB0 : Hid (∀ W, Below w0.heap.size w0 W → Below w.heap.size w W) := fun W b => Below.next b1 b
  have hsz0 : w.heap.size ≤ w0.heap.size := b1.size
  obtain ⟨x0, x1⟩ := HX2.out w0 (Below.refl _ _)
  rw [← Hw0.out] at x0 x1
  have hnt : (!true) = false := rfl
  have hnf : (!false) = true := rfl
  clear HX hv b1 hg CB
  go_enter Try.func48, Try.ntmps48
  go_wp2
  rw [Hw0.out]
  go_loopw [10] (fun kv wr => ∃ k : Nat, kv = .int .i64 (k : Int) ∧ k ≤ n ∧ Hid (byB t a c k = false) ∧ Below w0.heap.size w0 wr) (fun kv _ => (n - intOf kv).toNat)
  case atStart => exact ⟨0, rfl, by omega, rfl, Below.refl _ _⟩
  case round =>
    clear x0 x1
    obtain ⟨k, rfl, hk, HK, hB⟩ := hrel
    obtain ⟨x0, x1⟩ := HX2.out wr hB
    by_cases hlk : k < n
    · have hdk : decide ((k : Int) < (n : Int)) = true := by simp; omega
      have hkk : (k : Int) < (n : Int) := by omega
      have C1 := HCB.out wr hB a k ha hlk
      have st := byB_more t a c k
      have hy := byB_yes (t := t) (a := a) (c := c) hlk
      obtain ⟨p1, Hp1⟩ : ∃ p, Hid (t a k = p) := ⟨_, rfl⟩
      obtain ⟨p2, Hp2⟩ : ∃ p, Hid (t k c = p) := ⟨_, rfl⟩
      rw [Hp1.out, Hp2.out, HK.out] at st
      rw [Hp1.out, Hp2.out] at hy
      rw [Hp1.out] at C1
      have HY : Hid ((p1 && p2) = true → byB t a c n = true) := hy
      have ST : Hid (byB t a c (k + 1) = (false || (p1 && p2))) := st
      clear hy st HK
      cases p1 <;> cases p2 <;> (
        go_wp2_with (first
          | (go_at_call 40; refine C1.mono ?_; rintro e w5 ⟨rfl, hb5⟩; clear C1; have hB5 := Below.next hB hb5; obtain ⟨x5, z5⟩ := HX2.out w5 hB5; have C2 := HCB.out w5 hB5 k c hlk hc; rw [Hp2.out] at C2)
          | (go_at_call 40; refine C2.mono ?_; rintro e w6 ⟨rfl, hb6⟩; clear C2; have hB5 := Below.next hB5 hb6)
          | go_in)
        first
          | (go_roundw
             case rel => exact ⟨k + 1, by go_num, by omega, ST, hB5⟩
             case measure => simp [intOf]; omega)
          | (go_ret
             exact ⟨by rw [HY.out rfl]; rfl, HB0.out _ hB5⟩))
    · have hdk : decide ((k : Int) < (n : Int)) = false := by simp; omega
      have hdkn : decide (k < n) = false := by simp; omega
      obtain rfl : k = n := by omega
      go_wp2
      go_ret
      exact ⟨by rw [HK.out]; rfl, HB0.out _ hB⟩
set_option maxRecDepth 100000 in
set_option maxHeartbeats 16000000 in
theorem isKing_any {n : Nat} {l : List Int} (hg : GoodT n l) (v : Value) (w : World) (hv : Sl w v l) {a : Nat} (ha : a < n) :
    Calls Try.prog 41 #[.agg #[.int .i64 (n : Int), v], .int .i64 (a : Int)] w fun e w' => e = .returned (.bool (kgB n (tB n l) a n)) ∧ Below w.heap.size w w' := by
  have hn9 := hg.le
  obtain ⟨t, Ht⟩ : ∃ t, Hid (tB n l = t) := ⟨_, rfl⟩
  rw [Ht.out]
  have CB : ∀ W, Below w.heap.size w W → ∀ a b, a < n → b < n → Calls Try.prog 40 #[.agg #[.int .i64 (n : Int), v], .int .i64 (a : Int), .int .i64 (b : Int)] W fun e w' => e = .returned (.bool (t a b)) ∧ Below W.heap.size W w' := fun W bW a b ha hb => by rw [← Ht.out]; exact beats_any hg.one hg.le hg.len v W (hv.below bW) ha hb
  have CY : ∀ W, Below w.heap.size w W → ∀ c, c < n → Calls Try.prog 48 #[.agg #[.int .i64 (n : Int), v], .int .i64 (a : Int), .int .i64 (c : Int)] W fun e w' => e = .returned (.bool (byB t a c n)) ∧ Below W.heap.size W w' := fun W bW c hc => by rw [← Ht.out]; exact beatsByOne_any hg v W (hv.below bW) ha hc
  have b1 := balloc w (.cells #[.int .i64 (n : Int), v] 24)
  have HX := sq_cells (n : Int) v w
  obtain ⟨w0, Hw0⟩ : ∃ w0, Hid (w.alloc (.cells #[.int .i64 (n : Int), v] 24) = w0) := ⟨_, rfl⟩
  rw [Hw0.out] at b1 HX
  have HX2 : Hid (∀ W, Below w0.heap.size w0 W → W.cell? ⟨w.heap.size, 0, none⟩ = some (.int .i64 (n : Int)) ∧ W.cell? ⟨w.heap.size, 1, none⟩ = some v) := HX
  have HCB : Hid (∀ W, Below w0.heap.size w0 W → ∀ a b, a < n → b < n → Calls Try.prog 40 #[.agg #[.int .i64 (n : Int), v], .int .i64 (a : Int), .int .i64 (b : Int)] W fun e w' => e = .returned (.bool (t a b)) ∧ Below W.heap.size W w') := fun W bW => CB W (Below.next b1 bW)
  have HCY : Hid (∀ W, Below w0.heap.size w0 W → ∀ c, c < n → Calls Try.prog 48 #[.agg #[.int .i64 (n : Int), v], .int .i64 (a : Int), .int .i64 (c : Int)] W fun e w' => e = .returned (.bool (byB t a c n)) ∧ Below W.heap.size W w') := fun W bW => CY W (Below.next b1 bW)
  have HB0 : Hid (∀ W, Below w0.heap.size w0 W → Below w.heap.size w W) := fun W b => Below.next b1 b
  have hsz0 : w.heap.size ≤ w0.heap.size := b1.size
  obtain ⟨x0, x1⟩ := HX2.out w0 (Below.refl _ _)
  rw [← Hw0.out] at x0 x1
  have hnt : (!true) = false := rfl
  have hnf : (!false) = true := rfl
  clear HX hv b1 hg CB CY
  go_enter Try.func41, Try.ntmps41
  go_wp2
  rw [Hw0.out]
  go_loopw [8] (fun cv wr => ∃ c : Nat, cv = .int .i64 (c : Int) ∧ c ≤ n ∧ Hid (kgB n t a c = true) ∧ Below w0.heap.size w0 wr) (fun cv _ => (n - intOf cv).toNat)
  case atStart => exact ⟨0, rfl, by omega, rfl, Below.refl _ _⟩
  case round =>
    clear x0 x1
    obtain ⟨c, rfl, hc, HK, hB⟩ := hrel
    obtain ⟨x0, x1⟩ := HX2.out wr hB
    by_cases hlc : c < n
    · have hdc : decide ((c : Int) < (n : Int)) = true := by simp; omega
      have hcc : (c : Int) < (n : Int) := by omega
      have C1 := HCB.out wr hB a c ha hlc
      have C2 := HCY.out wr hB c hlc
      have st := kgB_more n t a c
      have hno := kgB_no (t := t) (a := a) hlc
      have tz := thB_by t a c n
      obtain ⟨p0, Hp0⟩ : ∃ p, Hid ((c == a) = p) := ⟨_, rfl⟩
      obtain ⟨p1, Hp1⟩ : ∃ p, Hid (t a c = p) := ⟨_, rfl⟩
      obtain ⟨p2, Hp2⟩ : ∃ p, Hid (byB t a c n = p) := ⟨_, rfl⟩
      have hca : ((c : Int) != (a : Int)) = !p0 := by rw [← Hp0.out]; rw [Bool.eq_iff_iff]; simp; omega
      rw [Hp0.out, Hp1.out, Hp2.out] at tz
      rw [tz] at st hno
      rw [HK.out] at st
      rw [Hp1.out] at C1
      rw [Hp2.out] at C2
      have HNO : Hid (((p0 || p1) || p2) = false → kgB n t a n = false) := hno
      have ST : Hid (kgB n t a (c + 1) = (true && ((p0 || p1) || p2))) := st
      clear hno st tz HK
      cases p0 <;> cases p1 <;> cases p2 <;> (
        first | rw [hnt] at hca | rw [hnf] at hca
        go_wp2_with (first
          | (go_at_call 40; refine C1.mono ?_; rintro e w5 ⟨rfl, hb5⟩; clear C1 C2; have hB := Below.next hB hb5; obtain ⟨x5, z5⟩ := HX2.out w5 hB; have C2 := HCY.out w5 hB c hlc; rw [Hp2.out] at C2)
          | (go_at_call 48; refine C2.mono ?_; rintro e w6 ⟨rfl, hb6⟩; clear C2; have hB := Below.next hB hb6)
          | go_in)
        first
          | (go_roundw
             case rel => exact ⟨c + 1, by go_num, by omega, ST, hB⟩
             case measure => simp [intOf]; omega)
          | (go_ret
             exact ⟨by rw [HNO.out rfl]; rfl, HB0.out _ hB⟩))
    · have hdc : decide ((c : Int) < (n : Int)) = false := by simp; omega
      have hdcn : decide (c < n) = false := by simp; omega
      obtain rfl : c = n := by omega
      go_wp2
      go_ret
      exact ⟨by rw [HK.out]; rfl, HB0.out _ hB⟩
set_option maxRecDepth 100000 in
set_option maxHeartbeats 16000000 in
theorem kings_any {n : Nat} {l : List Int} (hg : GoodT n l) (v : Value) (w : World) (hv : Sl w v l) :
    Calls Try.prog 32 #[.agg #[.int .i64 (n : Int), v]] w fun e w' => (∃ y, e = .returned y ∧ ORow w' w.heap.size y (kgL n (tB n l) n)) ∧ Below w.heap.size w w' := by
  obtain ⟨i3, ki3, kz0, kz1, kz2⟩ := info3
  have hn9 := hg.le
  obtain ⟨t, Ht⟩ : ∃ t, Hid (tB n l = t) := ⟨_, rfl⟩
  rw [Ht.out]
  have CB : ∀ W, Below w.heap.size w W → ∀ a b, a < n → b < n → Calls Try.prog 40 #[.agg #[.int .i64 (n : Int), v], .int .i64 (a : Int), .int .i64 (b : Int)] W fun e w' => e = .returned (.bool (t a b)) ∧ Below W.heap.size W w' := fun W bW a b ha hb => by rw [← Ht.out]; exact beats_any hg.one hg.le hg.len v W (hv.below bW) ha hb
  have CY : ∀ W, Below w.heap.size w W → ∀ a, a < n → Calls Try.prog 41 #[.agg #[.int .i64 (n : Int), v], .int .i64 (a : Int)] W fun e w' => e = .returned (.bool (kgB n t a n)) ∧ Below W.heap.size W w' := fun W bW a ha => by rw [← Ht.out]; exact isKing_any hg v W (hv.below bW) ha
  have b1 := balloc w (.cells #[.int .i64 (n : Int), v] 24)
  have HX := sq_cells (n : Int) v w
  obtain ⟨w0, Hw0⟩ : ∃ w0, Hid (w.alloc (.cells #[.int .i64 (n : Int), v] 24) = w0) := ⟨_, rfl⟩
  rw [Hw0.out] at b1 HX
  have HX2 : Hid (∀ W, Below w0.heap.size w0 W → W.cell? ⟨w.heap.size, 0, none⟩ = some (.int .i64 (n : Int)) ∧ W.cell? ⟨w.heap.size, 1, none⟩ = some v) := HX
  have HCB : Hid (∀ W, Below w0.heap.size w0 W → ∀ a b, a < n → b < n → Calls Try.prog 40 #[.agg #[.int .i64 (n : Int), v], .int .i64 (a : Int), .int .i64 (b : Int)] W fun e w' => e = .returned (.bool (t a b)) ∧ Below W.heap.size W w') := fun W bW => CB W (Below.next b1 bW)
  have HCY : Hid (∀ W, Below w0.heap.size w0 W → ∀ a, a < n → Calls Try.prog 41 #[.agg #[.int .i64 (n : Int), v], .int .i64 (a : Int)] W fun e w' => e = .returned (.bool (kgB n t a n)) ∧ Below W.heap.size W w') := fun W bW => CY W (Below.next b1 bW)
  have HB0 : Hid (∀ W, Below w0.heap.size w0 W → Below w.heap.size w W) := fun W b => Below.next b1 b
  have hsz0 : w.heap.size ≤ w0.heap.size := b1.size
  obtain ⟨x0, x1⟩ := HX2.out w0 (Below.refl _ _)
  rw [← Hw0.out] at x0 x1
  have hnt : (!true) = false := rfl
  have hnf : (!false) = true := rfl
  clear HX hv b1 hg CB CY HCB hnt hnf
  go_enter Try.func32, Try.ntmps32
  go_wp2
  rw [Hw0.out]
  go_loopw [3, 7] (fun ov av wr => ∃ (a k : Nat) (oa : Option Addr) (oc : Nat), av = .int .i64 (a : Int) ∧ ov = .slice oa k oc ∧ a ≤ n ∧ k ≤ a ∧ Hid ((kgL n t a).length = k) ∧ wr.ownsRow w0.heap.size 3 1 (.slice oa k oc) k (nz (kgL n t a)) ∧ Below w0.heap.size w0 wr) (fun _ av _ => (n - intOf av).toNat)
  case atStart => exact ⟨0, 0, none, 0, rfl, rfl, by omega, by omega, rfl, World.ownsRow_nil _ _ _ _, Below.refl _ _⟩
  case round =>
    clear x0 x1
    obtain ⟨a, k, oa, oc, rfl, rfl, ha, hka, HK, hown, hB⟩ := hrel
    obtain ⟨x0, x1⟩ := HX2.out wr hB
    by_cases hlt : a < n
    · have hda : decide ((a : Int) < (n : Int)) = true := by simp; omega
      have haa : (a : Int) < (n : Int) := by omega
      have C1 := HCY.out wr hB a hlt
      have LM := kgL_more n t a
      obtain ⟨g, HG⟩ : ∃ g, Hid (kgB n t a n = g) := ⟨_, rfl⟩
      rw [HG.out] at C1 LM
      cases g with
      | false =>
        have LM2 : kgL n t (a + 1) = kgL n t a := by rw [LM]; simp
        go_wp2_with (first
          | (go_at_call 41; refine C1.mono ?_; rintro e w5 ⟨rfl, hb5⟩; clear C1; have hB5 := Below.next hB hb5; have hown5 := own_keep hown (fun b _ hb => hb5.block b hb))
          | go_in)
        go_roundw
        case rel => exact ⟨a + 1, k, oa, oc, by go_num, rfl, by omega, by omega, (by show _ = _; rw [LM2]; exact HK.out), by rw [LM2]; exact hown5, hB5⟩
        case measure => simp [intOf]; omega
      | true =>
        have HA : Hid (nz (kgL n t (a + 1)) = nz (kgL n t a) ++ [.int .i64 (a : Int)]) := by show _ = _; rw [LM, if_pos rfl, nz_more]
        have HK2 : Hid ((kgL n t (a + 1)).length = k + 1) := by show _ = _; rw [LM, if_pos rfl, List.length_append, HK.out]; rfl
        clear LM
        go_wp2_with (first
          | (go_at_call 41; refine C1.mono ?_; rintro e w5 ⟨rfl, hb5⟩; clear C1; have hB5 := Below.next hB hb5; have hown5 := own_keep hown (fun b _ hb => hb5.block b hb); have hbz := hB5.size)
          | (at_builtin; refine wpList_append_own _ rfl _ _ 22 rfl w0.heap.size 3 i3 (.int .i64 0) 1 8 und22 ki3 kz0 kz1 kz2 rfl (by decide) _ _ _ rfl (hown5.alloc _) ⟨w5.heap.size, 0, none⟩ 1 1 [.int .i64 (a : Int)] rfl rfl ?c1 ?c2 ?c3 ?c4 ?c5 ?_)
          | go_in)
        case c1 =>
          intro j u hj
          match j, hj with
          | 0, hj => simp at hj; subst hj; simp [Addr.add]
        case c2 => intro u hu; simp at hu; subst hu; rfl
        case c3 => unfold maxLen; omega
        case c4 => omega
        case c5 => simp; omega
        · intro v' w6 hown' hgrow _
          have hb6 : Below w0.heap.size w0 w6 := (hB5.alloc hbz _).grown hgrow (by simp; omega) (fun k hk => (hown5.lt k hk).1)
          rw [← HA.out] at hown'
          obtain ⟨xa, xc, rfl⟩ := own_form hown'
          go_wp2
          go_roundw
          case rel => exact ⟨a + 1, k + 1, xa, xc, by go_num, rfl, by omega, by omega, HK2, hown', hb6⟩
          case measure => simp [intOf]; omega
    · have hda : decide ((a : Int) < (n : Int)) = false := by simp; omega
      have hdan : decide (a < n) = false := by simp; omega
      obtain rfl : a = n := by omega
      go_wp2
      go_ret
      exact ⟨⟨_, rfl, by unfold ORow; rw [HK.out]; exact own_low' hown hsz0⟩, HB0.out _ hB⟩
end Go.Proofs.Ytgkfddcmngodgaa
