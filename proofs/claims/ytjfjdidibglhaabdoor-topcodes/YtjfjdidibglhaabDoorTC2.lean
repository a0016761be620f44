/- TopCodes, the law. -/
import Derived.Test.YtjfjdidibglhaabDoorDu2
import Derived.Test.YtjfjdidibglhaabDoorTO2
import Derived.Test.YtjfjdidibglhaabDoorArW
/- A space and what is normal to it, held against each other column by column: the walk. -/
namespace Go.Proofs.YtjfjdidibglhaabDoor
open Go.RowKit

/-- Rows of n numbers each, as they are read. -/
def GrR (w : World) (b o n : Nat) (B : List (List Nat)) : Prop := ∀ i, i < B.length → ∃ b1 o1 cc, w.cell? ⟨b, o + i, none⟩ = some (.slice (some ⟨b1, o1, none⟩) n cc) ∧ ∀ c, c < n → w.cell? ⟨b1, o1 + c, none⟩ = some (.int .i64 (((B.getD i []).getD c 0 : Nat) : Int))
theorem mapZ_at (r : List Nat) (c : Nat) : (r.map Int.ofNat).getD c 0 = ((r.getD c 0 : Nat) : Int) := by
  rw [List.getD_eq_getElem?_getD, List.getD_eq_getElem?_getD, List.getElem?_map]
  cases r[c]? <;> rfl
theorem grR_of {w : World} {v : Value} {B : List (List Nat)} {n : Nat} (h : Rw w v (toZ B)) (h1 : 1 ≤ n) (hl : 1 ≤ B.length) (hB : ∀ r ∈ B, r.length = n) : ∃ b o c, v = .slice (some ⟨b, o, none⟩) B.length c ∧ ∀ W, Below w.heap.size w W → GrR W b o n B := by
  have key : ∀ W, Below w.heap.size w W → ∀ i, i < B.length → ∃ a cap b o b1 o1 cc, v = .slice a B.length cap ∧ a = some ⟨b, o, none⟩ ∧ W.cell? ⟨b, o + i, none⟩ = some (.slice (some ⟨b1, o1, none⟩) n cc) ∧ ∀ c, c < n → W.cell? ⟨b1, o1 + c, none⟩ = some (.int .i64 (((B.getD i []).getD c 0 : Nat) : Int)) := fun W hW i hi => by
    obtain ⟨a, cap, rfl, hr⟩ := h.below hW
    have hi2 : (toZ B)[i]? = some ((B.getD i []).map Int.ofNat) := by
      unfold toZ
      rw [List.getElem?_map, List.getElem?_eq_getElem hi, List.getD_eq_getElem?_getD, List.getElem?_eq_getElem hi]
      rfl
    obtain ⟨b, o, x, ea, hc, hs⟩ := hr i _ hi2
    have hm : B.getD i [] ∈ B := by
      rw [List.getD_eq_getElem?_getD, List.getElem?_eq_getElem hi]
      exact List.getElem_mem hi
    have hln := hB _ hm
    obtain ⟨xa, xc, rfl, hx⟩ := hs
    rw [List.length_map] at hx
    obtain ⟨b1, o1, e1, _⟩ := hx 0 (by omega)
    refine ⟨a, cap, b, o, b1, o1, xc, by simp [toZ], ea, by rw [hc, e1, List.length_map, hln], fun c hc => ?_⟩
    obtain ⟨b2, o2, e2, hx2⟩ := hx c (by omega)
    rw [e1] at e2
    simp only [Option.some.injEq, Addr.mk.injEq, and_true] at e2
    obtain ⟨rfl, rfl⟩ := e2
    rw [hx2, mapZ_at]
  obtain ⟨a, cap, b, o, _, _, _, ev, ea, _, _⟩ := key w (Below.refl _ _) 0 hl
  refine ⟨b, o, cap, by rw [ev, ea], fun W hW i hi => ?_⟩
  obtain ⟨a', cap', b', o', b1, o1, cc, ev', ea', h1, h2⟩ := key W hW i hi
  rw [ev] at ev'
  simp only [Value.slice.injEq] at ev'
  rw [← ev'.1, ea] at ea'
  simp only [Option.some.injEq, Addr.mk.injEq, and_true] at ea'
  obtain ⟨rfl, rfl⟩ := ea'
  exact ⟨b1, o1, cc, h1, h2⟩
/-- In the first lists there is nothing but zeros in a column; one of the first lists stands there alone. -/
def zTo (A : List (List Nat)) (c i : Nat) : Bool := (A.take i).all fun a => a.getD c 0 == 0
def sTo (n : Nat) (B : List (List Nat)) (c i : Nat) : Bool := (B.take i).any fun b => wtV n b == 1 && b.getD c 0 != 0
theorem zTo_step {A : List (List Nat)} {c i : Nat} (hi : i < A.length) : zTo A c (i + 1) = (zTo A c i && (A.getD i []).getD c 0 == 0) := by
  unfold zTo
  rw [List.take_add_one, List.getD_eq_getElem?_getD (l := A), List.getElem?_eq_getElem hi, List.all_append]
  simp
theorem sTo_step {n : Nat} {B : List (List Nat)} {c i : Nat} (hi : i < B.length) : sTo n B c (i + 1) = (sTo n B c i || (wtV n (B.getD i []) == 1 && (B.getD i []).getD c 0 != 0)) := by
  unfold sTo
  rw [List.take_add_one, List.getD_eq_getElem?_getD (l := B), List.getElem?_eq_getElem hi, List.any_append]
  simp

set_option maxRecDepth 100000 in
set_option maxHeartbeats 16000000 in
theorem codes_ok (p k : Int) (n q lA lB : Nat) (v u : Value) (A B : List (List Nat)) (Z : Value → World → Prop) (w : World) (hv : ∃ a m c, v = .slice a m c) (hu : ∃ a m c, u = .slice a m c) (h1n : 1 ≤ n) (hn : n ≤ 6) (hq1 : 1 ≤ q) (hq : q ^ n ≤ 4096)
    (hA : A.length = lA) (hB : B.length = lB) (hAr : ∀ r ∈ A, r.length = n) (hBr : ∀ r ∈ B, r.length = n) (hA1 : 1 ≤ lA) (hB1 : 1 ≤ lB) (hlA : lA ≤ 128) (hlB : lB ≤ 128) (hAB : lA * lB = q ^ n) (hZS : ∀ c, c < n → zTo A c lA = sTo n B c lB)
    (h13 : ∀ W, Below w.heap.size w W → Calls Tryd.prog 13 #[] W fun e w' => e = .returned (.bool true) ∧ Below W.heap.size W w')
    (h7 : ∀ W, Below w.heap.size w W → Calls Tryd.prog 7 #[.agg #[.int .i64 p, .int .i64 k, v], .int .i64 (n : Int), u] W fun e w' => (∃ y, e = .returned (.tuple #[y, .int .i64 0]) ∧ Rw w' y (toZ A)) ∧ Below W.heap.size W w')
    (h10 : ∀ W, Below w.heap.size w W → Calls Tryd.prog 10 #[.agg #[.int .i64 p, .int .i64 k, v], .int .i64 (n : Int), u] W fun e w' => (∃ y, e = .returned (.tuple #[y, .int .i64 0]) ∧ (∃ a m c, y = .slice a m c) ∧ Z y w') ∧ Below W.heap.size W w')
    (h7b : ∀ W y, Below w.heap.size w W → Z y W → Calls Tryd.prog 7 #[.agg #[.int .i64 p, .int .i64 k, v], .int .i64 (n : Int), y] W fun e w' => (∃ y, e = .returned (.tuple #[y, .int .i64 0]) ∧ Rw w' y (toZ B)) ∧ Below W.heap.size W w')
    (h8 : ∀ W, Below w.heap.size w W → Calls Tryd.prog 8 #[.agg #[.int .i64 p, .int .i64 k, v]] W fun e w' => e = .returned (.int .i64 (q : Int)) ∧ Below W.heap.size W w') :
    Calls Tryd.prog 5 #[.agg #[.int .i64 p, .int .i64 k, v], .int .i64 (n : Int), u] w fun e w' => e = .returned (.bool true) ∧ Below w.heap.size w w' := by
  obtain ⟨fa, fn, fc, rfl⟩ := hv
  obtain ⟨ua, um, uc, rfl⟩ := hu
  have b1 := balloc w (.cells #[.int .i64 p, .int .i64 k, .slice fa fn fc] 24)
  have HX := fl_box p k (.slice fa fn fc) w
  obtain ⟨w0, Hw0⟩ : ∃ w0, Hid (w.alloc (.cells #[.int .i64 p, .int .i64 k, .slice fa fn fc] 24) = w0) := ⟨_, rfl⟩
  rw [Hw0.out] at b1 HX
  have HX2 : Hid (∀ W, Below w0.heap.size w0 W → (W.cell? ⟨w.heap.size, 0, none⟩ = some (.int .i64 p) ∧ W.cell? ⟨w.heap.size, 1, none⟩ = some (.int .i64 k) ∧ W.cell? ⟨w.heap.size, 2, none⟩ = some (.slice fa fn fc))) := HX
  have HB0 : Hid (∀ W, Below w0.heap.size w0 W → Below w.heap.size w W) := fun W b => Below.next b1 b
  have H7b : Hid (∀ W y, Below w.heap.size w W → Z y W → Calls Tryd.prog 7 #[.agg #[.int .i64 p, .int .i64 k, .slice fa fn fc], .int .i64 (n : Int), y] W fun e w' => (∃ y, e = .returned (.tuple #[y, .int .i64 0]) ∧ Rw w' y (toZ B)) ∧ Below W.heap.size W w') := h7b
  have HGA : Hid (∀ W y, Rw W y (toZ A) → ∃ b o c, y = .slice (some ⟨b, o, none⟩) lA c ∧ ∀ W', Below W.heap.size W W' → GrR W' b o n A) := fun W y h => by rw [← hA]; exact grR_of h h1n (by omega) hAr
  have HGB : Hid (∀ W y, Rw W y (toZ B) → ∃ b o c, y = .slice (some ⟨b, o, none⟩) lB c ∧ ∀ W', Below W.heap.size W W' → GrR W' b o n B) := fun W y h => by rw [← hB]; exact grR_of h h1n (by omega) hBr
  have HZS : Hid (∀ c, c < n → zTo A c lA = sTo n B c lB) := hZS
  have HPW : Hid (∀ i, i ≤ n → q ^ i ≤ 4096) := fun i h => Nat.le_trans (Nat.pow_le_pow_right hq1 h) hq
  have HAB : Hid (lA * lB = q ^ n) := hAB
  have H7 : Hid _ := h7
  have H8 : Hid _ := h8
  have H10 : Hid _ := h10
  have C13 := h13 w0 b1
  have HlA : Hid (A.length = lA) := hA
  have HlB : Hid (B.length = lB) := hB
  clear HX h7 h8 h7b h10 h13 b1 hA hB hAr hBr hAB hZS hq hq1
  go_enter Tryd.func5, Tryd.ntmps5
  go_wp2_with (first
    | (go_at_call 13; rw [Hw0.out]; refine C13.mono ?_; rintro e w1 ⟨rfl, b1⟩; clear C13; obtain ⟨x0, x1, x2⟩ := HX2.out w1 b1; have C7 := H7.out w1 (HB0.out w1 b1); clear H7)
    | (go_at_call 7; refine C7.mono ?_; rintro e w2 ⟨⟨y, rfl, hy⟩, b2⟩; clear C7 x0 x1 x2; obtain ⟨ab, ao, ac, rfl, hGA⟩ := HGA.out w2 _ hy; replace b2 := Below.next b1 b2; clear b1; obtain ⟨x0, x1, x2⟩ := HX2.out w2 b2; have C10 := H10.out w2 (HB0.out w2 b2); clear H10 hy)
    | (go_at_call 10; refine C10.mono ?_; rintro e w3 ⟨⟨z, rfl, ⟨za, zm, zc, rfl⟩, hZ⟩, b3⟩; clear C10 x0 x1 x2; have HGA3 : Hid (∀ W, Below w3.heap.size w3 W → GrR W ab ao n A) := fun W b => hGA W (Below.next b3 b); clear hGA; replace b3 := Below.next b2 b3; clear b2; obtain ⟨x0, x1, x2⟩ := HX2.out w3 b3; have C7b := H7b.out w3 _ (HB0.out w3 b3) hZ; clear H7b hZ)
    | (go_at_call 7; refine C7b.mono ?_; rintro e w4 ⟨⟨y, rfl, hy⟩, b4⟩; clear C7b x0 x1 x2; obtain ⟨bb, bo, bc, rfl, hGB⟩ := HGB.out w4 _ hy; have HGA4 : Hid (∀ W, Below w4.heap.size w4 W → GrR W ab ao n A) := fun W b => HGA3.out W (Below.next b4 b); clear HGA3; replace b4 := Below.next b3 b4; clear b3; obtain ⟨x0, x1, x2⟩ := HX2.out w4 b4; have C8 := H8.out w4 (HB0.out w4 b4); clear H8 hy)
    | (go_at_call 8; refine C8.mono ?_; rintro e w5 ⟨rfl, b5⟩; clear C8 x0 x1 x2))
  have hB6 := HB0.out _ (Below.next b4 b5)
  go_loopw [13, 14] (fun sv iv wr => ∃ i s : Nat, sv = .int .i64 (s : Int) ∧ iv = .int .i64 (i : Int) ∧ i ≤ n ∧ s ≤ 4096 ∧ Hid (q ^ i = s) ∧ wr = w5) (fun _ iv _ => (n - intOf iv).toNat)
  case atStart => exact ⟨0, 1, rfl, rfl, by omega, by omega, Nat.pow_zero q, rfl⟩
  case round =>
    obtain ⟨i, s, rfl, rfl, hi, hs, Hs, hw⟩ := hrel
    replace hw := hw.symm
    subst hw
    by_cases hli : i < n
    · have hdi : decide ((i : Int) < (n : Int)) = true := by simp; omega
      have hii : (i : Int) < (n : Int) := by omega
      obtain ⟨s2, Hs2⟩ : ∃ s2, Hid (s * q = s2) := ⟨_, rfl⟩
      have Hs3 : Hid (q ^ (i + 1) = s2) := by show _ = _; rw [Nat.pow_succ, Hs.out, Hs2.out]
      have hs2 : s2 ≤ 4096 := by rw [← Hs3.out]; exact HPW.out (i + 1) (by omega)
      have hm : (s : Int) * (q : Int) = (s2 : Int) := by rw [← Hs2.out]; simp
      go_wp2
      go_roundw
      case rel => exact ⟨i + 1, s2, by go_num, by go_num, by omega, hs2, Hs3, by first | rfl | trivial⟩
      case measure => simp [intOf]; omega
    · have hdi : decide ((i : Int) < (n : Int)) = false := by simp; omega
      have hdn : decide (i < n) = false := by simp; omega
      have Hin : Hid (i = n) := by show _ = _; omega
      have hll : (wrap64 ((lA : Int) * (lB : Int)) != (s : Int)) = false := by
        have e : (lA : Int) * (lB : Int) = (s : Int) := by rw [← Int.natCast_mul, HAB.out, ← Hs.out, Hin.out]
        have e2 : wrap64 (s : Int) = (s : Int) := by unfold wrap64; omega
        rw [e, e2]
        simp
      clear Hin hi
      go_wp2
      have HGB4 : Hid (∀ W, Below w5.heap.size w5 W → GrR W bb bo n B) := fun W b => hGB W (Below.next b5 b)
      have HGA5 : Hid (∀ W, Below w5.heap.size w5 W → GrR W ab ao n A) := fun W b => HGA4.out W (Below.next b5 b)
      clear hGB HGA4 HGA HGB HPW hll Hs hdi hdn hli hs
      go_loopw [15] (fun cv wr => ∃ c : Nat, cv = .int .i64 (c : Int) ∧ c ≤ n ∧ Below w5.heap.size w5 wr) (fun cv _ => (n - intOf cv).toNat)
      case atStart => exact ⟨0, rfl, by omega, Below.refl _ _⟩
      case round =>
        obtain ⟨c, rfl, hc, hB⟩ := hrel
        by_cases hlc : c < n
        · have hdc : decide ((c : Int) < (n : Int)) = true := by simp; omega
          have hci : (c : Int) < (n : Int) := by omega
          obtain ⟨wz, hwz⟩ : ∃ wz : World, wz = wr := ⟨_, rfl⟩
          subst hwz
          go_wp2
          go_loopw [16, 17] (fun zv iv wr => ∃ (i : Nat) (b : Bool), zv = .bool b ∧ iv = .int .i64 (i : Int) ∧ i ≤ lA ∧ Hid (zTo A c i = b) ∧ Below w5.heap.size w5 wr) (fun _ iv _ => (lA - intOf iv).toNat)
          case atStart => exact ⟨0, true, rfl, rfl, by omega, rfl, hB⟩
          case round =>
            obtain ⟨i, b, rfl, rfl, hi, Hz, hB2⟩ := hrel
            by_cases hli : i < lA
            · have hdi : decide ((i : Int) < (lA : Int)) = true := by simp; omega
              have hii : (i : Int) < (lA : Int) := by omega
              obtain ⟨g1, o1, cc, hr1, hr2⟩ := HGA5.out wr hB2 i (by rw [HlA.out]; exact hli)
              have e1 := zTo_step (A := A) (c := c) (i := i) (by rw [HlA.out]; exact hli)
              have hcc := hr2 c hlc
              obtain ⟨x, Hx⟩ : ∃ x, Hid ((A.getD i []).getD c 0 = x) := ⟨_, rfl⟩
              rw [Hx.out] at e1 hcc
              rw [Hz.out] at e1
              clear hr2
              cases b with
              | false =>
                have Hz2 : Hid (zTo A c (i + 1) = false) := e1
                clear e1
                go_wp2
                go_roundw
                case rel => exact ⟨i + 1, false, rfl, by go_num, by omega, Hz2, hB2⟩
                case measure => simp [intOf]; omega
              | true =>
                by_cases hx0 : x = 0
                · have Hz2 : Hid (zTo A c (i + 1) = true) := by show _ = _; rw [e1, hx0]; rfl
                  have hxe : ((x : Int) == 0) = true := by simp [hx0]
                  clear e1 hx0
                  go_wp2
                  go_roundw
                  case rel => exact ⟨i + 1, true, rfl, by go_num, by omega, Hz2, hB2⟩
                  case measure => simp [intOf]; omega
                · have Hz2 : Hid (zTo A c (i + 1) = false) := by show _ = _; rw [e1]; simp [hx0]
                  have hxe : ((x : Int) == 0) = false := by simp; omega
                  clear e1 hx0
                  go_wp2
                  go_roundw
                  case rel => exact ⟨i + 1, false, rfl, by go_num, by omega, Hz2, hB2⟩
                  case measure => simp [intOf]; omega
            · have hdi : decide ((i : Int) < (lA : Int)) = false := by simp; omega
              have hdn : decide (i < lA) = false := by simp; omega
              have Hzz : Hid (sTo n B c lB = b) := by show _ = _; rw [← HZS.out c hlc, ← Hz.out, show i = lA by omega]
              clear Hz hi
              obtain ⟨wy, hwy⟩ : ∃ wy : World, wy = wr := ⟨_, rfl⟩
              subst hwy
              go_wp2
              go_loopw [18, 19] (fun zv iv wr => ∃ (i : Nat) (b : Bool), zv = .bool b ∧ iv = .int .i64 (i : Int) ∧ i ≤ lB ∧ Hid (sTo n B c i = b) ∧ Below w5.heap.size w5 wr) (fun _ iv _ => (lB - intOf iv).toNat)
              case atStart => exact ⟨0, false, rfl, rfl, by omega, rfl, hB2⟩
              case round =>
                obtain ⟨i2, b2, rfl, rfl, hi2, Hs2, hB3⟩ := hrel
                by_cases hli2 : i2 < lB
                · have hdi2 : decide ((i2 : Int) < (lB : Int)) = true := by simp; omega
                  have hii2 : (i2 : Int) < (lB : Int) := by omega
                  have e1 := sTo_step (n := n) (B := B) (c := c) (i := i2) (by rw [HlB.out]; exact hli2)
                  rw [Hs2.out] at e1
                  have HE1 : Hid _ := e1
                  have HGR : Hid (∀ W, Below w5.heap.size w5 W → ∃ b1 o1 cc, W.cell? ⟨bb, bo + i2, none⟩ = some (.slice (some ⟨b1, o1, none⟩) n cc) ∧ ∀ c, c < n → W.cell? ⟨b1, o1 + c, none⟩ = some (.int .i64 (((B.getD i2 []).getD c 0 : Nat) : Int))) := fun W b => HGB4.out W b i2 (by rw [HlB.out]; exact hli2)
                  clear e1
                  obtain ⟨wx, hwx⟩ : ∃ wx : World, wx = wr := ⟨_, rfl⟩
                  subst hwx
                  go_wp2
                  go_loopw [20, 21] (fun sv jv wr => ∃ j s : Nat, sv = .int .i64 (s : Int) ∧ jv = .int .i64 (j : Int) ∧ j ≤ n ∧ s ≤ j ∧ Hid (wtV j (B.getD i2 []) = s) ∧ Below w5.heap.size w5 wr) (fun _ jv _ => (n - intOf jv).toNat)
                  case atStart => exact ⟨0, 0, rfl, rfl, by omega, by omega, rfl, hB3⟩
                  case round =>
                    obtain ⟨j, s, rfl, rfl, hj, hsj, Hs, hB4⟩ := hrel
                    by_cases hlj : j < n
                    · have hdj : decide ((j : Int) < (n : Int)) = true := by simp; omega
                      have hjj : (j : Int) < (n : Int) := by omega
                      obtain ⟨g1, o1, cc, hr1, hr2⟩ := HGR.out wr hB4
                      have hcc := hr2 j hlj
                      have e2 := wt_step j (B.getD i2 [])
                      rw [Hs.out] at e2
                      obtain ⟨x, Hx⟩ : ∃ x, Hid ((B.getD i2 []).getD j 0 = x) := ⟨_, rfl⟩
                      rw [Hx.out] at e2 hcc
                      clear hr2
                      by_cases hx0 : x = 0
                      · rw [if_pos hx0] at e2
                        have HT2 : Hid (wtV (j + 1) (B.getD i2 []) = s) := e2
                        have hne : ((x : Int) != 0) = false := by simp [hx0]
                        clear e2 hx0
                        go_wp2
                        go_roundw
                        case rel => exact ⟨j + 1, s, rfl, by go_num, by omega, by omega, HT2, hB4⟩
                        case measure => simp [intOf]; omega
                      · rw [if_neg hx0] at e2
                        have HT2 : Hid (wtV (j + 1) (B.getD i2 []) = s + 1) := e2
                        have hne : ((x : Int) != 0) = true := by simp [hx0]
                        clear e2 hx0
                        go_wp2
                        go_roundw
                        case rel => exact ⟨j + 1, s + 1, by go_num, by go_num, by omega, by omega, HT2, hB4⟩
                        case measure => simp [intOf]; omega
                    · have hdj : decide ((j : Int) < (n : Int)) = false := by simp; omega
                      have hdn2 : decide (j < n) = false := by simp; omega
                      have Hw : Hid (wtV n (B.getD i2 []) = s) := by show _ = _; rw [← Hs.out, show j = n by omega]
                      have hsn : s ≤ n := by omega
                      obtain ⟨g1, o1, cc, hr1, hr2⟩ := HGR.out wr hB4
                      have hcc := hr2 c hlc
                      obtain ⟨x, Hx⟩ : ∃ x, Hid ((B.getD i2 []).getD c 0 = x) := ⟨_, rfl⟩
                      have e1 := HE1.out
                      rw [Hx.out, Hw.out] at e1
                      rw [Hx.out] at hcc
                      clear hr2 Hs hj hsj
                      cases b2 with
                      | true =>
                        have HT2 : Hid (sTo n B c (i2 + 1) = true) := e1
                        clear e1
                        go_wp2
                        go_roundw
                        case rel => exact ⟨i2 + 1, true, rfl, by go_num, by omega, HT2, hB4⟩
                        case measure => simp [intOf]; omega
                      | false =>
                        by_cases hs1 : s = 1
                        · have hse : ((s : Int) == 1) = true := by simp [hs1]
                          by_cases hx0 : x = 0
                          · have HT2 : Hid (sTo n B c (i2 + 1) = false) := by show _ = _; rw [e1, hx0]; simp
                            have hne : ((x : Int) != 0) = false := by simp [hx0]
                            clear e1 hx0 hs1
                            go_wp2
                            go_roundw
                            case rel => exact ⟨i2 + 1, false, rfl, by go_num, by omega, HT2, hB4⟩
                            case measure => simp [intOf]; omega
                          · have HT2 : Hid (sTo n B c (i2 + 1) = true) := by show _ = _; rw [e1, hs1]; simp [hx0]
                            have hne : ((x : Int) != 0) = true := by simp [hx0]
                            clear e1 hx0 hs1
                            go_wp2
                            go_roundw
                            case rel => exact ⟨i2 + 1, true, rfl, by go_num, by omega, HT2, hB4⟩
                            case measure => simp [intOf]; omega
                        · have hse : ((s : Int) == 1) = false := by simp; omega
                          have HT2 : Hid (sTo n B c (i2 + 1) = false) := by show _ = _; rw [e1]; simp [hs1]
                          clear e1 hs1
                          go_wp2
                          go_roundw
                          case rel => exact ⟨i2 + 1, false, rfl, by go_num, by omega, HT2, hB4⟩
                          case measure => simp [intOf]; omega
                · have hdi2 : decide ((i2 : Int) < (lB : Int)) = false := by simp; omega
                  have hdn2 : decide (i2 < lB) = false := by simp; omega
                  obtain rfl : b2 = b := by rw [← Hs2.out, ← Hzz.out, show i2 = lB by omega]
                  have hbb : (b2 != b2) = false := by cases b2 <;> rfl
                  clear Hs2 Hzz hi2
                  cases b2
                  all_goals
                    go_wp2
                    go_roundw
                    case rel => exact ⟨c + 1, by go_num, by omega, hB3⟩
                    case measure => simp [intOf]; omega
        · have hdc : decide ((c : Int) < (n : Int)) = false := by simp; omega
          have hdn : decide (c < n) = false := by simp; omega
          go_wp2
          go_ret
          exact ⟨rfl, Below.next hB6 hB⟩
end Go.Proofs.YtjfjdidibglhaabDoor

namespace Go.Proofs.YtjfjdidibglhaabDoor
open Go.RowKit

theorem rwE_zero {q n : Nat} {r : List Nat} (h : Vc q n r) (h0 : 0 < q) : rwE q n (r.map Int.ofNat) = 0 := by
  unfold rwE
  rw [if_neg (by rw [List.length_map, h.len]; simp), if_pos]
  rw [List.all_eq_true]
  intro j _
  have := h.at h0 j
  rw [mapZ_at]
  simp only [Bool.and_eq_true, decide_eq_true_eq]
  omega
theorem rsE_zero {q n : Nat} {S : List (List Nat)} (h : Rws q n S) (h0 : 0 < q) (hl : S.length ≤ 12) : rsE q n (toZ S) = 0 := by
  unfold rsE
  rw [if_neg (by unfold toZ; rw [List.length_map]; omega)]
  clear hl
  induction S with
  | nil => rfl
  | cons r S ih =>
    show (if rwE q n (r.map Int.ofNat) ≠ 0 then rwE q n (r.map Int.ofNat) else rlE q n (toZ S)) = 0
    rw [rwE_zero (h r (by simp)) h0, if_neg (by simp)]
    exact ih fun s hs => h s (by simp [hs])
theorem lnL_len' {q n : Nat} {ad mu : Nat → Nat → Nat} (S : List (List Nat)) : (lnL q ad mu n S).length = cntV q n (Spn q ad mu n S) := by
  rw [← rnL_len, ← rn_tie]
  unfold rnA toZ
  simp
theorem zTo_all {A : List (List Nat)} {c : Nat} : zTo A c A.length = true ↔ ∀ a ∈ A, a.getD c 0 = 0 := by
  unfold zTo
  rw [List.take_length, List.all_eq_true]
  exact ⟨fun h a ha => by simpa using h a ha, fun h a ha => by simpa using h a ha⟩
theorem sTo_any {n : Nat} {B : List (List Nat)} {c : Nat} : sTo n B c B.length = true ↔ ∃ b ∈ B, wtV n b = 1 ∧ b.getD c 0 ≠ 0 := by
  unfold sTo
  rw [List.take_length, List.any_eq_true]
  constructor
  · rintro ⟨b, hb, h⟩
    exact ⟨b, hb, by simpa [-List.getD_eq_getElem?_getD] using h⟩
  · rintro ⟨b, hb, h⟩
    exact ⟨b, hb, by simpa [-List.getD_eq_getElem?_getD] using h⟩
theorem codes_zs {q n : Nat} {ad mu : Nat → Nat → Nat} {ng : Nat → Nat} (h : FqR q ad mu ng) {S M : List (List Nat)} (hS : Rws q n S) (hM : BasIs q ad mu n (Nrm q ad mu n S) M) {c : Nat} (hc : c < n) :
    zTo (lnL q ad mu n S) c (lnL q ad mu n S).length = sTo n (lnL q ad mu n M) c (lnL q ad mu n M).length := by
  rw [Bool.eq_iff_iff, zTo_all, sTo_any]
  have k := zero_iffW h hS hc
  constructor
  · intro hz
    obtain ⟨b, hb, hw, h0⟩ := k.1 fun v hv => hz v ((lnL_mem h hS).2 hv)
    exact ⟨b, (lnL_mem h hM.rref.rws).2 ((hM.same b).2 hb), hw, h0⟩
  · rintro ⟨b, hb, hw, h0⟩ a ha
    exact k.2 ⟨b, (hM.same b).1 ((lnL_mem h hM.rref.rws).1 hb), hw, h0⟩ a ((lnL_mem h hS).1 ha)

set_option maxRecDepth 100000 in
set_option maxHeartbeats 16000000 in
theorem codes_err (p k n z : Int) (v u : Value) (w : World) (hv : ∃ a m c, v = .slice a m c) (hu : ∃ a m c, u = .slice a m c) (h0 : z ≠ 0)
    (h13 : ∀ W, Below w.heap.size w W → Calls Tryd.prog 13 #[] W fun e w' => e = .returned (.bool true) ∧ Below W.heap.size W w')
    (h7 : ∀ W, Below w.heap.size w W → Calls Tryd.prog 7 #[.agg #[.int .i64 p, .int .i64 k, v], .int .i64 n, u] W fun e w' => (∃ y, e = .returned (.tuple #[y, .int .i64 z]) ∧ ∃ a m c, y = .slice a m c) ∧ Below W.heap.size W w') :
    Calls Tryd.prog 5 #[.agg #[.int .i64 p, .int .i64 k, v], .int .i64 n, u] w fun e w' => e = .returned (.bool true) ∧ Below w.heap.size w w' := by
  obtain ⟨fa, fn, fc, rfl⟩ := hv
  obtain ⟨ua, um, uc, rfl⟩ := hu
  have b1 := balloc w (.cells #[.int .i64 p, .int .i64 k, .slice fa fn fc] 24)
  have HX := fl_box p k (.slice fa fn fc) w
  obtain ⟨w0, Hw0⟩ : ∃ w0, Hid (w.alloc (.cells #[.int .i64 p, .int .i64 k, .slice fa fn fc] 24) = w0) := ⟨_, rfl⟩
  rw [Hw0.out] at b1 HX
  have HX2 : Hid (∀ W, Below w0.heap.size w0 W → (W.cell? ⟨w.heap.size, 0, none⟩ = some (.int .i64 p) ∧ W.cell? ⟨w.heap.size, 1, none⟩ = some (.int .i64 k) ∧ W.cell? ⟨w.heap.size, 2, none⟩ = some (.slice fa fn fc))) := HX
  clear HX
  have h00 : (z != 0) = true := by simpa using h0
  have C6 := h13 w0 b1
  clear h13
  go_enter Tryd.func5, Tryd.ntmps5
  go_wp2_with (first
    | (go_at_call 13; rw [Hw0.out]; refine C6.mono ?_; rintro e w1 ⟨rfl, b2⟩; clear C6; obtain ⟨x0, x1, x2⟩ := HX2.out w1 b2; have hB2 := Below.next b1 b2; have C7 := h7 w1 hB2; clear h7)
    | (go_at_call 7; refine C7.mono ?_; rintro e w2 ⟨⟨y, rfl, ya, ym, yc, rfl⟩, b3⟩; clear C7))
  go_ret
  exact ⟨rfl, Below.next hB2 b3⟩
set_option maxRecDepth 100000 in
set_option maxHeartbeats 16000000 in
theorem codes_full (p k n : Int) (v u : Value) (Z : Value → World → Prop) (w : World) (hv : ∃ a m c, v = .slice a m c) (hu : ∃ a m c, u = .slice a m c)
    (h13 : ∀ W, Below w.heap.size w W → Calls Tryd.prog 13 #[] W fun e w' => e = .returned (.bool true) ∧ Below W.heap.size W w')
    (h7 : ∀ W, Below w.heap.size w W → Calls Tryd.prog 7 #[.agg #[.int .i64 p, .int .i64 k, v], .int .i64 n, u] W fun e w' => (∃ y, e = .returned (.tuple #[y, .int .i64 0]) ∧ ∃ a m c, y = .slice a m c) ∧ Below W.heap.size W w')
    (h10 : ∀ W, Below w.heap.size w W → Calls Tryd.prog 10 #[.agg #[.int .i64 p, .int .i64 k, v], .int .i64 n, u] W fun e w' => (∃ y, e = .returned (.tuple #[y, .int .i64 0]) ∧ (∃ a m c, y = .slice a m c) ∧ Z y w') ∧ Below W.heap.size W w')
    (h7b : ∀ W y, Below w.heap.size w W → Z y W → Calls Tryd.prog 7 #[.agg #[.int .i64 p, .int .i64 k, v], .int .i64 n, y] W fun e w' => (∃ y, e = .returned (.tuple #[y, .int .i64 3]) ∧ ∃ a m c, y = .slice a m c) ∧ Below W.heap.size W w') :
    Calls Tryd.prog 5 #[.agg #[.int .i64 p, .int .i64 k, v], .int .i64 n, u] w fun e w' => e = .returned (.bool true) ∧ Below w.heap.size w w' := by
  obtain ⟨fa, fn, fc, rfl⟩ := hv
  obtain ⟨ua, um, uc, rfl⟩ := hu
  have b1 := balloc w (.cells #[.int .i64 p, .int .i64 k, .slice fa fn fc] 24)
  have HX := fl_box p k (.slice fa fn fc) w
  obtain ⟨w0, Hw0⟩ : ∃ w0, Hid (w.alloc (.cells #[.int .i64 p, .int .i64 k, .slice fa fn fc] 24) = w0) := ⟨_, rfl⟩
  rw [Hw0.out] at b1 HX
  have HX2 : Hid (∀ W, Below w0.heap.size w0 W → (W.cell? ⟨w.heap.size, 0, none⟩ = some (.int .i64 p) ∧ W.cell? ⟨w.heap.size, 1, none⟩ = some (.int .i64 k) ∧ W.cell? ⟨w.heap.size, 2, none⟩ = some (.slice fa fn fc))) := HX
  have HB0 : Hid (∀ W, Below w0.heap.size w0 W → Below w.heap.size w W) := fun W b => Below.next b1 b
  have H7b : Hid (∀ W y, Below w.heap.size w W → Z y W → Calls Tryd.prog 7 #[.agg #[.int .i64 p, .int .i64 k, .slice fa fn fc], .int .i64 n, y] W fun e w' => (∃ y, e = .returned (.tuple #[y, .int .i64 3]) ∧ ∃ a m c, y = .slice a m c) ∧ Below W.heap.size W w') := h7b
  have H7 : Hid _ := h7
  have H10 : Hid _ := h10
  have C13 := h13 w0 b1
  clear HX h7 h7b h10 h13 b1
  go_enter Tryd.func5, Tryd.ntmps5
  go_wp2_with (first
    | (go_at_call 13; rw [Hw0.out]; refine C13.mono ?_; rintro e w1 ⟨rfl, b1⟩; clear C13; obtain ⟨x0, x1, x2⟩ := HX2.out w1 b1; have C7 := H7.out w1 (HB0.out w1 b1); clear H7)
    | (go_at_call 7; refine C7.mono ?_; rintro e w2 ⟨⟨y, rfl, ya, ym, yc, rfl⟩, b2⟩; clear C7 x0 x1 x2; replace b2 := Below.next b1 b2; clear b1; obtain ⟨x0, x1, x2⟩ := HX2.out w2 b2; have C10 := H10.out w2 (HB0.out w2 b2); clear H10)
    | (go_at_call 10; refine C10.mono ?_; rintro e w3 ⟨⟨z, rfl, ⟨za, zm, zc, rfl⟩, hZ⟩, b3⟩; clear C10 x0 x1 x2; replace b3 := Below.next b2 b3; clear b2; obtain ⟨x0, x1, x2⟩ := HX2.out w3 b3; have C7b := H7b.out w3 _ (HB0.out w3 b3) hZ; clear H7b hZ)
    | (go_at_call 7; refine C7b.mono ?_; rintro e w4 ⟨⟨y, rfl, ya, ym, yc, rfl⟩, b4⟩; clear C7b x0 x1 x2; replace b4 := Below.next b3 b4; clear b3))
  go_ret
  exact ⟨rfl, HB0.out _ b4⟩
theorem Codes_law (p k n : Int) (l : List Int) (v u : Value) (rs : List (List Int)) (w : World) (hD : Tab w) (hT : Fd.Tab w) (hl : Fd.Sl w v l) (hll : l.length ≤ maxLen) (hu : RwC w u rs) :
    Calls Tryd.prog 5 #[.agg #[.int .i64 p, .int .i64 k, v], .int .i64 n, u] w fun e w' => e = .returned (.bool true) ∧ Below w.heap.size w w' := by
  have hv : ∃ a m c, v = .slice a m c := by obtain ⟨a, c, e, _⟩ := hl; exact ⟨a, _, c, e⟩
  have hus : ∃ a m c, u = .slice a m c := by obtain ⟨a, m, c, e, _⟩ := hu.form; exact ⟨a, m, c, e⟩
  have h13 : ∀ W, Below w.heap.size w W → Calls Tryd.prog 13 #[] W fun e w' => e = .returned (.bool true) ∧ Below W.heap.size W w' := fun W b => one_any W (hD.next b) (hT.below b)
  rcases room_cases p k l n with ⟨z, hz⟩ | ⟨P, K, N, hO⟩
  · refine codes_err p k n z v u w hv hus hz.ne h13 fun W b => ?_
    refine (Linear_err p k n z v u W hv hus hz.ne fun W' b' => ?_).mono fun e w' ⟨h, b⟩ => ⟨⟨_, h, _, _, _, rfl⟩, b⟩
    have bb := Below.next b b'
    exact (Basis_err p k n z v u rs (.int .i64 0) W' hv (hu.below bb) (hz.op (hT.below bb) (hl.below bb) hll [u] [rs] _) hz.ne).mono fun e w' ⟨h, b⟩ => ⟨⟨_, _, _, h⟩, b⟩
  · obtain ⟨rfl, rfl, rfl, hG, h1, h6, hf⟩ := hO
    have hF : Fld P K l v w := ⟨hT, hl, hll, hG⟩
    by_cases h0 : rsE (P ^ K) N rs = 0
    · obtain ⟨S, e, hR, hSl⟩ := rs_nat h0
      subst e
      have hfq := hF.fqr
      obtain ⟨M, hM⟩ := nrm_ex hfq hR
      have hMr := hM.rref.rws
      have hMl : M.length ≤ 12 := by have := rref_le hM.rref; omega
      have CL : ∀ W, Below w.heap.size w W → Calls Tryd.prog 7 #[.agg #[.int .i64 (P : Int), .int .i64 (K : Int), v], .int .i64 (N : Int), u] W fun e w' => ∃ x, e = .returned (.tuple #[x, .int .i64 (lnZ (P ^ K) (adF P K) (muF P K l) N S : Int)]) ∧ Rw w' x (toZ (lnR (P ^ K) (adF P K) (muF P K l) N S)) ∧ Below W.heap.size W w' := fun W b =>
        Linear_ok P K N l v u S W (hF.below b) h1 h6 hf hus fun W' b' => by
          have bb := Below.next b b'
          have h := Basis_ans (hF.below bb) h1 h6 hf (hu.below bb) (S := S) (fun _ => rfl)
          rw [h0] at h
          exact h
      have CN : ∀ W, Below w.heap.size w W → Calls Tryd.prog 10 #[.agg #[.int .i64 (P : Int), .int .i64 (K : Int), v], .int .i64 (N : Int), u] W fun e w' => (∃ y, e = .returned (.tuple #[y, .int .i64 0]) ∧ (∃ a m c, y = .slice a m c) ∧ Rw w' y (toZ M)) ∧ Below W.heap.size W w' := fun W b => by
        refine (Normal_ok P K N l v u S W (hF.below b) (hu.rw.below b) hR hSl h1 h6 (opc_rows (hF.below b) h1 h6 hf _ _ (by simp) (by rw [lsE_one, h0]))).mono ?_
        rintro e w' ⟨⟨y, M', rfl, hM', hy⟩, b'⟩
        obtain rfl := hM'.one hfq hM
        exact ⟨⟨y, rfl, rw_sl hy, hy⟩, b'⟩
      have CM : ∀ W y, Below w.heap.size w W → Rw W y (toZ M) → Calls Tryd.prog 7 #[.agg #[.int .i64 (P : Int), .int .i64 (K : Int), v], .int .i64 (N : Int), y] W fun e w' => ∃ x, e = .returned (.tuple #[x, .int .i64 (lnZ (P ^ K) (adF P K) (muF P K l) N M : Int)]) ∧ Rw w' x (toZ (lnR (P ^ K) (adF P K) (muF P K l) N M)) ∧ Below W.heap.size W w' := fun W y b hy =>
        Linear_ok P K N l v y M W (hF.below b) h1 h6 hf (rw_sl hy) fun W' b' => by
          have bb := Below.next b b'
          refine (Basis_ok P K N l v y M W' (hF.below bb) (hy.below b') hMr hMl h1 h6 (opc_rows (hF.below bb) h1 h6 hf _ _ (by simp) (by rw [lsE_one, rsE_zero hMr hfq.pos hMl]))).mono ?_
          rintro e w' ⟨h, b⟩
          exact ⟨h.ans h6, b⟩
      by_cases hbig : 128 < (lnL (P ^ K) (adF P K) (muF P K l) N S).length
      · have hz : lnZ (P ^ K) (adF P K) (muF P K l) N S = 3 := by unfold lnZ; rw [if_pos hbig]
        rw [hz] at CL
        exact codes_err P K N 3 v u w hv hus (by decide) h13 fun W b => (CL W b).mono fun e w' ⟨x, h, hx, b⟩ => ⟨⟨x, h, rw_sl hx⟩, b⟩
      · have hz : lnZ (P ^ K) (adF P K) (muF P K l) N S = 0 ∧ lnR (P ^ K) (adF P K) (muF P K l) N S = lnL (P ^ K) (adF P K) (muF P K l) N S := by unfold lnZ lnR; rw [if_neg hbig, if_neg hbig]; exact ⟨rfl, rfl⟩
        rw [hz.1, hz.2] at CL
        by_cases hbig2 : 128 < (lnL (P ^ K) (adF P K) (muF P K l) N M).length
        · have hz2 : lnZ (P ^ K) (adF P K) (muF P K l) N M = 3 := by unfold lnZ; rw [if_pos hbig2]
          rw [hz2] at CM
          exact codes_full P K N v u (fun y W => Rw W y (toZ M)) w hv hus h13 (fun W b => (CL W b).mono fun e w' ⟨x, h, hx, b⟩ => ⟨⟨x, h, rw_sl hx⟩, b⟩) CN fun W y b hy => (CM W y b hy).mono fun e w' ⟨x, h, hx, b⟩ => ⟨⟨x, h, rw_sl hx⟩, b⟩
        · have hz2 : lnZ (P ^ K) (adF P K) (muF P K l) N M = 0 ∧ lnR (P ^ K) (adF P K) (muF P K l) N M = lnL (P ^ K) (adF P K) (muF P K l) N M := by unfold lnZ lnR; rw [if_neg hbig2, if_neg hbig2]; exact ⟨rfl, rfl⟩
          rw [hz2.1, hz2.2] at CM
          refine codes_ok P K N (P ^ K) _ _ v u (lnL (P ^ K) (adF P K) (muF P K l) N S) (lnL (P ^ K) (adF P K) (muF P K l) N M) (fun y W => Rw W y (toZ M)) w hv hus h1 h6 hfq.pos hf rfl rfl
            (fun r hr => (lnL_row hfq.pos hr).len) (fun r hr => (lnL_row hfq.pos hr).len) (List.length_pos_of_mem ((lnL_mem hfq hR).2 .zero)) (List.length_pos_of_mem ((lnL_mem hfq hMr).2 .zero)) (by omega) (by omega)
            (by rw [lnL_len', lnL_len']; exact cnt_both hfq hR hM) (fun c hc => codes_zs hfq hR hM hc) h13
            (fun W b => (CL W b).mono fun e w' ⟨x, h, hx, b⟩ => ⟨⟨x, h, hx⟩, b⟩) CN (fun W y b hy => (CM W y b hy).mono fun e w' ⟨x, h, hx, b⟩ => ⟨⟨x, h, hx⟩, b⟩) fun W _ => hF.size rfl W
    · have hne : ((rsE (P ^ K) N rs : Nat) : Int) ≠ 0 := by omega
      refine codes_err P K N (rsE (P ^ K) N rs : Nat) v u w hv hus hne h13 fun W b => ?_
      refine (Linear_err P K N _ v u W hv hus hne fun W' b' => ?_).mono fun e w' ⟨h, b⟩ => ⟨⟨_, h, _, _, _, rfl⟩, b⟩
      have bb := Below.next b b'
      refine (Basis_ans (hF.below bb) h1 h6 hf (hu.below bb) (S := []) (fun h => absurd h h0)).mono ?_
      rintro e w' ⟨⟨a, m, c, rfl, _⟩, b⟩
      exact ⟨⟨_, _, _, rfl⟩, b⟩
end Go.Proofs.YtjfjdidibglhaabDoor
