/- The walks of the document's UnitOf and AssociatesOf. -/
import Derived.Test.YtncnaaohihmjnaaQ7
namespace Go.Proofs.Ytncnaaohihmjnaa
open Go.RowKit

set_option maxHeartbeats 8000000 in
theorem UnitOf_any (n : Nat) (L : List Int) (v : Value) (w : World) (o : Option Nat) (z : Int) (hv : Sl w v L) (G : GoodS n L) (ho : fstN n (unitB n (sq n L)) = o) (hz : z = o.elim (-1) Int.ofNat) :
    Calls Try.prog 14 #[.agg #[.int .i64 (n : Int), v]] w fun e w' => e = .returned (.int .i64 z) ∧ Below w.heap.size w w' := by
  have h8 := G.le
  obtain ⟨w0, Hw0⟩ : ∃ w0, Hid (w0 = w.alloc (.cells #[.int .i64 (n : Int), v] 24)) := ⟨_, rfl⟩
  have HD : Hid (Doc n (sq n L) v w.heap.size w0) := by rw [Hw0.out]; exact doc_of hv G
  have HB0 : Hid (Below w.heap.size w w0) := by rw [Hw0.out]; exact balloc _ _
  have HO : Hid (fstN n (unitB n (sq n L)) = o) := ho
  have HZ : Hid (z = o.elim (-1) Int.ofNat) := hz
  generalize sq n L = t at *
  obtain ⟨x0, x1⟩ := HD.out.cell _ (Below.refl _ _)
  rw [Hw0.out] at x0 x1
  clear hv G ho hz
  go_enter Try.func14, Try.ntmps14
  go_wp2
  go_loopw [3] (fun i wr => ∃ u : Nat, i = .int .i64 (u : Int) ∧ u ≤ n ∧ Hid (∀ y, y < u → unitB n t y = false) ∧ Below w0.heap.size w0 wr) (fun i _ => (n - intOf i).toNat)
  case atStart => exact ⟨0, rfl, by omega, (show ∀ y, y < 0 → _ from fun y h => by omega), by rw [Hw0.out]; exact Below.refl _ _⟩
  case round =>
    clear x0 x1
    obtain ⟨u, rfl, hx, HR, hB⟩ := hrel
    obtain ⟨x0, x1⟩ := HD.out.cell _ hB
    by_cases hlt : u < n
    · have hdx : decide ((u : Int) < (n : Int)) = true := by simp; omega
      go_wp2
      go_loopw [4, 5] (fun ov j wr => ∃ (y : Nat) (p : Bool), j = .int .i64 (y : Int) ∧ ov = .bool p ∧ y ≤ n ∧ Hid ((allN y fun y => t u y == y && t y u == y) = p) ∧ Below w0.heap.size w0 wr) (fun _ j _ => (n - intOf j).toNat)
      case atStart => exact ⟨0, true, rfl, rfl, by omega, rfl, hB⟩
      case round =>
        clear x0 x1 hB
        obtain ⟨y, p, rfl, rfl, hy, HY, hB⟩ := hrel
        obtain ⟨x0, x1⟩ := HD.out.cell _ hB
        by_cases hly : y < n
        · have hdy : decide ((y : Int) < (n : Int)) = true := by simp; omega
          have C1 := HD.out.ask _ hB u y hlt hly
          have C2 := fun W (b : Below w0.heap.size w0 W) => HD.out.ask W b y u hly hlt
          have HY2 : Hid ((allN (y + 1) fun y => t u y == y && t y u == y) = (p && ((((t u y : Nat) : Int) == (y : Int)) && (((t y u : Nat) : Int) == (y : Int))))) := by
            show _ = _
            rw [allN_succ, HY.out, nat_beq, nat_beq]
          obtain ⟨X, hX⟩ : ∃ X : Int, X = ((t u y : Nat) : Int) := ⟨_, rfl⟩
          obtain ⟨Y, hY⟩ : ∃ X : Int, X = ((t y u : Nat) : Int) := ⟨_, rfl⟩
          rw [← hX] at C1 HY2
          rw [← hY] at C2 HY2
          obtain ⟨c, hc⟩ : ∃ c, (X == (y : Int)) = c := ⟨_, rfl⟩
          obtain ⟨d, hd⟩ : ∃ d, (Y == (y : Int)) = d := ⟨_, rfl⟩
          rw [hc, hd] at HY2
          clear HY hX hY
          cases p with
          | false =>
            go_wp2_with (first
              | (go_at_call 21; refine C1.mono ?_; rintro e w1 ⟨rfl, b1⟩; have hB1 := Below.next hB b1; obtain ⟨y0, y1⟩ := HD.out.cell _ hB1; clear C1)
              | (go_at_call 21; refine (C2 _ hB1).mono ?_; rintro e w2 ⟨rfl, b2⟩; have hB2 := Below.next hB1 b2; clear C2))
            go_roundw
            case rel => exact ⟨y + 1, _, by go_num, rfl, by omega, HY2, hB2⟩
            case measure => simp [intOf]; omega
          | true =>
            cases c with
            | false =>
              go_wp2_with (first
                | (go_at_call 21; refine C1.mono ?_; rintro e w1 ⟨rfl, b1⟩; have hB1 := Below.next hB b1; obtain ⟨y0, y1⟩ := HD.out.cell _ hB1; clear C1)
                | (go_at_call 21; refine (C2 _ hB1).mono ?_; rintro e w2 ⟨rfl, b2⟩; have hB2 := Below.next hB1 b2; clear C2))
              go_roundw
              case rel => exact ⟨y + 1, _, by go_num, rfl, by omega, HY2, hB2⟩
              case measure => simp [intOf]; omega
            | true =>
              go_wp2_with (first
                | (go_at_call 21; refine C1.mono ?_; rintro e w1 ⟨rfl, b1⟩; have hB1 := Below.next hB b1; obtain ⟨y0, y1⟩ := HD.out.cell _ hB1; clear C1)
                | (go_at_call 21; refine (C2 _ hB1).mono ?_; rintro e w2 ⟨rfl, b2⟩; have hB2 := Below.next hB1 b2; clear C2))
              go_roundw
              case rel => exact ⟨y + 1, _, by go_num, rfl, by omega, HY2, hB2⟩
              case measure => simp [intOf]; omega
        · have hdy : decide ((y : Int) < (n : Int)) = false := by simp; omega
          obtain rfl : y = n := by omega
          cases p with
          | true =>
            have ho : o = some u := by rw [← HO.out]; exact fst_at hlt HY.out HR.out
            subst ho
            obtain rfl : z = (u : Int) := HZ.out
            go_wp2
            go_ret
            exact ⟨rfl, Below.next HB0.out hB⟩
          | false =>
            have HR2 : Hid (∀ x', x' < u + 1 → unitB y t x' = false) := fun x' hx' => by
              by_cases e : x' = u
              · subst e; exact HY.out
              · exact HR.out x' (by omega)
            go_wp2
            go_roundw
            case rel => exact ⟨u + 1, by go_num, by omega, HR2, hB⟩
            case measure => simp [intOf]; omega
    · have hdx : decide ((u : Int) < (n : Int)) = false := by simp; omega
      obtain rfl : u = n := by omega
      have ho : o = none := by rw [← HO.out]; exact fst_none HR.out
      subst ho
      obtain rfl : z = -1 := HZ.out
      go_wp2
      go_ret
      exact ⟨rfl, Below.next HB0.out hB⟩
set_option maxHeartbeats 16000000 in
theorem AssociatesOf_any (n : Nat) (L : List Int) (v : Value) (w : World) (q : Bool) (hv : Sl w v L) (G : GoodS n L) (hq : assB n (sq n L) = q) :
    Calls Try.prog 16 #[.agg #[.int .i64 (n : Int), v]] w fun e w' => e = .returned (.bool q) ∧ Below w.heap.size w w' := by
  have h8 := G.le
  have HLT : Hid (∀ a b, a < n → b < n → sq n L a b < n) := G.lat.lt
  obtain ⟨w0, Hw0⟩ : ∃ w0, Hid (w0 = w.alloc (.cells #[.int .i64 (n : Int), v] 24)) := ⟨_, rfl⟩
  have HD : Hid (Doc n (sq n L) v w.heap.size w0) := by rw [Hw0.out]; exact doc_of hv G
  have HB0 : Hid (Below w.heap.size w w0) := by rw [Hw0.out]; exact balloc _ _
  have HQ : Hid (assB n (sq n L) = q) := hq
  generalize sq n L = t at *
  obtain ⟨x0, x1⟩ := HD.out.cell _ (Below.refl _ _)
  rw [Hw0.out] at x0 x1
  clear hv G hq
  go_enter Try.func16, Try.ntmps16
  go_wp2
  go_loopw [3] (fun i wr => ∃ x : Nat, i = .int .i64 (x : Int) ∧ x ≤ n ∧ Hid (∀ x', x' < x → ∀ y z, y < n → z < n → t (t x' y) z = t x' (t y z)) ∧ Below w0.heap.size w0 wr) (fun i _ => (n - intOf i).toNat)
  case atStart => exact ⟨0, rfl, by omega, (show ∀ y, y < 0 → _ from fun y h => by omega), by rw [Hw0.out]; exact Below.refl _ _⟩
  case round =>
    clear x0 x1
    obtain ⟨x, rfl, hx, HR, hB⟩ := hrel
    obtain ⟨x0, x1⟩ := HD.out.cell _ hB
    by_cases hlt : x < n
    · have hdx : decide ((x : Int) < (n : Int)) = true := by simp; omega
      go_wp2
      go_loopw [4] (fun j wr => ∃ y : Nat, j = .int .i64 (y : Int) ∧ y ≤ n ∧ Hid (∀ y', y' < y → ∀ z, z < n → t (t x y') z = t x (t y' z)) ∧ Below w0.heap.size w0 wr) (fun j _ => (n - intOf j).toNat)
      case atStart => exact ⟨0, rfl, by omega, (show ∀ y, y < 0 → _ from fun y h => by omega), hB⟩
      case round =>
        clear x0 x1 hB
        obtain ⟨y, rfl, hy, HY, hB⟩ := hrel
        obtain ⟨x0, x1⟩ := HD.out.cell _ hB
        by_cases hly : y < n
        · have hdy : decide ((y : Int) < (n : Int)) = true := by simp; omega
          go_wp2
          go_loopw [5] (fun k wr => ∃ z : Nat, k = .int .i64 (z : Int) ∧ z ≤ n ∧ Hid (∀ z', z' < z → t (t x y) z' = t x (t y z')) ∧ Below w0.heap.size w0 wr) (fun k _ => (n - intOf k).toNat)
          case atStart => exact ⟨0, rfl, by omega, (show ∀ y, y < 0 → _ from fun y h => by omega), hB⟩
          case round =>
            clear x0 x1 hB
            obtain ⟨z, rfl, hz, HZ, hB⟩ := hrel
            obtain ⟨x0, x1⟩ := HD.out.cell _ hB
            by_cases hlz : z < n
            · have hdz : decide ((z : Int) < (n : Int)) = true := by simp; omega
              have C1 := HD.out.ask _ hB x y hlt hly
              have C2 := fun W (b : Below w0.heap.size w0 W) => HD.out.ask W b y z hly hlz
              have C3 := fun W (b : Below w0.heap.size w0 W) => HD.out.ask W b (t x y) z (HLT.out x y hlt hly) hlz
              have C4 := fun W (b : Below w0.heap.size w0 W) => HD.out.ask W b x (t y z) hlt (HLT.out y z hly hlz)
              by_cases he : t (t x y) z = t x (t y z)
              · have HZ2 : Hid (∀ z', z' < z + 1 → t (t x y) z' = t x (t y z')) := fun z' hz' => by
                  by_cases e : z' = z
                  · subst e; exact he
                  · exact HZ.out z' (by omega)
                rw [he] at C3
                obtain ⟨X, hX⟩ : ∃ X : Int, X = ((t x (t y z) : Nat) : Int) := ⟨_, rfl⟩
                rw [← hX] at C3 C4
                obtain ⟨P, hP⟩ : ∃ X : Int, X = ((t x y : Nat) : Int) := ⟨_, rfl⟩
                rw [← hP] at C1 C3
                obtain ⟨Q, hQ⟩ : ∃ X : Int, X = ((t y z : Nat) : Int) := ⟨_, rfl⟩
                rw [← hQ] at C2 C4
                have hn : (X != X) = false := by simp
                clear he HZ hX hP hQ
                go_wp2_with (first
                  | (go_at_call 21; refine C1.mono ?_; rintro e w1 ⟨rfl, b1⟩; have hB1 := Below.next hB b1; obtain ⟨y0, y1⟩ := HD.out.cell _ hB1; clear C1)
                  | (go_at_call 21; refine (C2 _ hB1).mono ?_; rintro e w2 ⟨rfl, b2⟩; have hB2 := Below.next hB1 b2; obtain ⟨z0, z1⟩ := HD.out.cell _ hB2; clear C2)
                  | (go_at_call 21; refine (C3 _ hB2).mono ?_; rintro e w3 ⟨rfl, b3⟩; have hB3 := Below.next hB2 b3; obtain ⟨q0, q1⟩ := HD.out.cell _ hB3; clear C3)
                  | (go_at_call 21; refine (C4 _ hB3).mono ?_; rintro e w4 ⟨rfl, b4⟩; have hB4 := Below.next hB3 b4; clear C4))
                go_roundw
                case rel => exact ⟨z + 1, by go_num, by omega, HZ2, hB4⟩
                case measure => simp [intOf]; omega
              · obtain rfl : q = false := by
                  cases q with
                  | false => rfl
                  | true => exact (he (ass_iff.1 HQ.out x y z hlt hly hlz)).elim
                have hne : (((t (t x y) z : Nat) : Int) != ((t x (t y z) : Nat) : Int)) = true := bne_iff_ne.2 (by omega)
                obtain ⟨X, hX⟩ : ∃ X : Int, X = ((t x (t y z) : Nat) : Int) := ⟨_, rfl⟩
                rw [← hX] at C4 hne
                obtain ⟨Y, hY⟩ : ∃ X : Int, X = ((t (t x y) z : Nat) : Int) := ⟨_, rfl⟩
                rw [← hY] at C3 hne
                obtain ⟨P, hP⟩ : ∃ X : Int, X = ((t x y : Nat) : Int) := ⟨_, rfl⟩
                rw [← hP] at C1 C3
                obtain ⟨Q, hQ⟩ : ∃ X : Int, X = ((t y z : Nat) : Int) := ⟨_, rfl⟩
                rw [← hQ] at C2 C4
                clear he HZ hX hY hP hQ
                go_wp2_with (first
                  | (go_at_call 21; refine C1.mono ?_; rintro e w1 ⟨rfl, b1⟩; have hB1 := Below.next hB b1; obtain ⟨y0, y1⟩ := HD.out.cell _ hB1; clear C1)
                  | (go_at_call 21; refine (C2 _ hB1).mono ?_; rintro e w2 ⟨rfl, b2⟩; have hB2 := Below.next hB1 b2; obtain ⟨z0, z1⟩ := HD.out.cell _ hB2; clear C2)
                  | (go_at_call 21; refine (C3 _ hB2).mono ?_; rintro e w3 ⟨rfl, b3⟩; have hB3 := Below.next hB2 b3; obtain ⟨q0, q1⟩ := HD.out.cell _ hB3; clear C3)
                  | (go_at_call 21; refine (C4 _ hB3).mono ?_; rintro e w4 ⟨rfl, b4⟩; have hB4 := Below.next hB3 b4; clear C4))
                go_ret
                exact ⟨rfl, Below.next HB0.out hB4⟩
            · have hdz : decide ((z : Int) < (n : Int)) = false := by simp; omega
              obtain rfl : z = n := by omega
              have HY2 : Hid (∀ y', y' < y + 1 → ∀ z', z' < z → t (t x y') z' = t x (t y' z')) := fun y' hy' => by
                by_cases e : y' = y
                · subst e; exact HZ.out
                · exact HY.out y' (by omega)
              go_wp2
              go_roundw
              case rel => exact ⟨y + 1, by go_num, by omega, HY2, hB⟩
              case measure => simp [intOf]; omega
        · have hdy : decide ((y : Int) < (n : Int)) = false := by simp; omega
          obtain rfl : y = n := by omega
          have HR2 : Hid (∀ x', x' < x + 1 → ∀ y' z, y' < y → z < y → t (t x' y') z = t x' (t y' z)) := fun x' hx' => by
            by_cases e : x' = x
            · subst e; exact fun y' z hy' hz => HY.out y' hy' z hz
            · exact HR.out x' (by omega)
          go_wp2
          go_roundw
          case rel => exact ⟨x + 1, by go_num, by omega, HR2, hB⟩
          case measure => simp [intOf]; omega
    · have hdx : decide ((x : Int) < (n : Int)) = false := by simp; omega
      obtain rfl : x = n := by omega
      obtain rfl : q = true := by rw [← HQ.out]; exact ass_iff.2 fun x' y z hx' hy hz => HR.out x' hx' y z hy hz
      go_wp2
      go_ret
      exact ⟨rfl, Below.next HB0.out hB⟩
end Go.Proofs.Ytncnaaohihmjnaa
