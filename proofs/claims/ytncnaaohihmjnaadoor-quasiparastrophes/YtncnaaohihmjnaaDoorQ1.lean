/- Those who are asked of an element, or of two; the walks of first, always, alwaysOfTwo. -/
import Derived.Test.YtncnaaohihmjnaaDoorL1
import Derived.Test.YtncnaaohihmjnaaDoorQPure
namespace Go.Proofs.YtncnaaohihmjnaaDoor
open Go.RowKit

theorem fresh (w : World) (v : Value) (t : TypeId) : (w.alloc (.cells #[v] t)).cell? ⟨w.heap.size, 0, none⟩ = some v := by
  rw [cell_of_row _ _ _ _ _ _ (heap_alloc_new w _)]; rfl
theorem kept {w W : World} {b o : Nat} {v : Value} (h : w.cell? ⟨b, o, none⟩ = some v) (hl : b < w.heap.size) (hb : Below w.heap.size w W) : W.cell? ⟨b, o, none⟩ = some v := (hb.cell (p := ⟨b, o, none⟩) hl).trans h
/-- A box of one value, as it is read later. -/
def Bx (w : World) (b : Nat) (v : Value) : Prop := b < w.heap.size ∧ w.cell? ⟨b, 0, none⟩ = some v
theorem Bx.below {w W : World} {b : Nat} {v : Value} (h : Bx w b v) (hb : Below w.heap.size w W) : Bx W b v := ⟨Nat.lt_of_lt_of_le h.1 hb.size, kept h.2 h.1 hb⟩
theorem bx_new (w : World) (v : Value) (t : TypeId) : Bx (w.alloc (.cells #[v] t)) w.heap.size v := ⟨by simp, fresh w v t⟩
/-- The function tells of each element. -/
def AskAt (g : Nat) (lb : Array Value) (n : Nat) (p : Nat → Bool) (w : World) : Prop :=
  ∀ W : World, Below w.heap.size w W → ∀ x : Nat, x < n → Calls Tryd.prog g (#[.int .i64 (x : Int)] ++ lb) W fun e w' => e = .returned (.bool (p x)) ∧ Below W.heap.size W w'
def Asker (v : Value) (n : Nat) (p : Nat → Bool) (w : World) : Prop :=
  ∃ g lb, v = .func (.func g) #[] lb ∧ (∀ args w, (callFunc g args).run Tryd.prog w = .ok (.enter g args) w) ∧ AskAt g lb n p w
theorem Asker.below {v : Value} {n : Nat} {p : Nat → Bool} {w W : World} (h : Asker v n p w) (hb : Below w.heap.size w W) : Asker v n p W := by
  obtain ⟨g, lb, rfl, e, h⟩ := h
  exact ⟨g, lb, rfl, e, fun W' b x hx => h W' (Below.next hb b) x hx⟩
theorem Asker.form {v : Value} {n : Nat} {p : Nat → Bool} {w : World} (h : Asker v n p w) : ∃ g lb, v = .func (.func g) #[] lb := by
  obtain ⟨g, lb, rfl, _⟩ := h
  exact ⟨g, lb, rfl⟩
/-- The function tells of each two elements. -/
def Ask2At (g : Nat) (lb : Array Value) (n : Nat) (p : Nat → Nat → Bool) (w : World) : Prop :=
  ∀ W : World, Below w.heap.size w W → ∀ x y : Nat, x < n → y < n → Calls Tryd.prog g (#[.int .i64 (x : Int), .int .i64 (y : Int)] ++ lb) W fun e w' => e = .returned (.bool (p x y)) ∧ Below W.heap.size W w'
def Asker2 (v : Value) (n : Nat) (p : Nat → Nat → Bool) (w : World) : Prop :=
  ∃ g lb, v = .func (.func g) #[] lb ∧ (∀ args w, (callFunc g args).run Tryd.prog w = .ok (.enter g args) w) ∧ Ask2At g lb n p w
theorem Asker2.below {v : Value} {n : Nat} {p : Nat → Nat → Bool} {w W : World} (h : Asker2 v n p w) (hb : Below w.heap.size w W) : Asker2 v n p W := by
  obtain ⟨g, lb, rfl, e, h⟩ := h
  exact ⟨g, lb, rfl, e, fun W' b x y hx hy => h W' (Below.next hb b) x y hx hy⟩
theorem Asker2.form {v : Value} {n : Nat} {p : Nat → Nat → Bool} {w : World} (h : Asker2 v n p w) : ∃ g lb, v = .func (.func g) #[] lb := by
  obtain ⟨g, lb, rfl, _⟩ := h
  exact ⟨g, lb, rfl⟩

set_option maxHeartbeats 4000000 in
theorem first_any (n : Nat) (p : Nat → Bool) (o : Option Nat) (v : Value) (w : World) (hn : n ≤ 8) (hA : Asker v n p w) (ho : fstN n p = o) :
    Calls Tryd.prog 14 #[.int .i64 (n : Int), v] w fun e w' => e = .returned (.tuple #[.int .i64 ((o.getD 0 : Nat) : Int), .bool o.isSome]) ∧ Below w.heap.size w w' := by
  obtain ⟨g, lb, rfl, eg, hA⟩ := hA
  have HA : Hid (AskAt g lb n p w) := hA
  have HO : Hid (fstN n p = o) := ho
  clear hA ho
  go_enter Tryd.func14, Tryd.ntmps14
  go_wp2
  go_loopw [8] (fun i wr => ∃ r : Nat, i = .int .i64 (r : Int) ∧ r ≤ n ∧ Hid (∀ y, y < r → p y = false) ∧ Below w.heap.size w wr) (fun i _ => (n - intOf i).toNat)
  case atStart => exact ⟨0, rfl, by omega, (fun y h => by omega : ∀ y, y < 0 → _), Below.refl _ _⟩
  case round =>
    obtain ⟨r, rfl, hr, HR, hB⟩ := hrel
    by_cases hlt : r < n
    · have hdr : decide ((r : Int) < (n : Int)) = true := by simp; omega
      have C := HA.out _ hB r hlt
      cases hp : p r with
      | true =>
        rw [hp] at C
        have ho : o = some r := by rw [← HO.out]; exact fst_at hlt hp HR.out
        subst ho
        clear hp HR
        go_wp2_with (go_at_fn g; refine C.mono ?_; rintro e w3 ⟨rfl, b3⟩)
        exact bodyPost_ret (v := .tuple #[.int .i64 (r : Int), .bool true]) (by simp [results, Tryd.results14, go_sem]) rfl ⟨rfl, Below.next hB b3⟩
      | false =>
        rw [hp] at C
        have HR2 : Hid (∀ y, y < r + 1 → p y = false) := fun y hy => by
          by_cases e : y = r
          · subst e; exact hp
          · exact HR.out y (by omega)
        clear hp HR
        go_wp2_with (go_at_fn g; refine C.mono ?_; rintro e w3 ⟨rfl, b3⟩)
        go_roundw
        case rel => exact ⟨r + 1, by go_num, by omega, HR2, Below.next hB b3⟩
        case measure => simp [intOf]; omega
    · have hdr : decide ((r : Int) < (n : Int)) = false := by simp; omega
      obtain rfl : r = n := by omega
      have ho : o = none := by rw [← HO.out]; exact fst_none HR.out
      subst ho
      go_wp2
      exact bodyPost_ret (v := .tuple #[.int .i64 0, .bool false]) (by simp [results, Tryd.results14, go_sem]) rfl ⟨rfl, hB⟩
theorem e57 : ∀ args w, (callFunc 38 args).run Tryd.prog w = .ok (.enter 38 args) w := enters_of Tryd.func38 (by kernel_rfl) rfl
set_option maxHeartbeats 1000000 in
theorem always1_any (n b x : Nat) (p : Nat → Bool) (v : Value) (w W : World) (hA : Asker v n p w) (hB : Below w.heap.size w W) (hbx : W.cell? ⟨b, 0, none⟩ = some v) (hx : x < n) :
    Calls Tryd.prog 38 #[.int .i64 (x : Int), .pointer (some ⟨b, 0, none⟩)] W fun e w' => e = .returned (.bool (!p x)) ∧ Below W.heap.size W w' := by
  obtain ⟨g, lb, rfl, eg, hA⟩ := hA
  have C := hA W hB x hx
  generalize p x = q at *
  clear hA
  go_enter Tryd.func38, Tryd.ntmps38
  go_wp2_with (go_at_fn g; refine C.mono ?_; rintro e w3 ⟨rfl, b3⟩)
  go_ret
  exact ⟨rfl, b3⟩
set_option maxHeartbeats 1000000 in
theorem always_any (n : Nat) (p : Nat → Bool) (b : Bool) (v : Value) (w : World) (hn : n ≤ 8) (hA : Asker v n p w) (hb : allN n p = b) :
    Calls Tryd.prog 31 #[.int .i64 (n : Int), v] w fun e w' => e = .returned (.bool b) ∧ Below w.heap.size w w' := by
  have C : ∀ t, Calls Tryd.prog 14 #[.int .i64 (n : Int), .func (.func 38) #[] #[.pointer (some ⟨w.heap.size, 0, none⟩)]] (w.alloc (.cells #[v] t)) fun e w' => (∃ x, e = .returned (.tuple #[.int .i64 x, .bool (!b)])) ∧ Below (w.alloc (.cells #[v] t)).heap.size (w.alloc (.cells #[v] t)) w' := fun t => by
    refine (first_any n (fun x => !p x) _ _ (w.alloc (.cells #[v] t)) hn ⟨_, _, rfl, e57, fun W hB x hx => ?_⟩ rfl).mono ?_
    · exact always1_any n w.heap.size x p v _ W (hA.below (balloc w _)) hB ((bx_new w v t).below hB).2 hx
    · rintro e w1 ⟨rfl, b1⟩
      rw [allN_fst] at hb
      exact ⟨⟨_, by rw [← hb, Bool.not_not]⟩, b1⟩
  obtain ⟨g, lb, rfl⟩ := hA.form
  clear hA hb
  go_enter Tryd.func31, Tryd.ntmps31
  go_wp2_with (go_at_call 14; refine (C _).mono ?_; rintro e w3 ⟨⟨x, rfl⟩, b3⟩)
  go_ret
  exact ⟨by simp, Below.next (balloc w _) b3⟩
theorem e67 : ∀ args w, (callFunc 39 args).run Tryd.prog w = .ok (.enter 39 args) w := enters_of Tryd.func39 (by kernel_rfl) rfl
theorem e68 : ∀ args w, (callFunc 40 args).run Tryd.prog w = .ok (.enter 40 args) w := enters_of Tryd.func40 (by kernel_rfl) rfl
set_option maxHeartbeats 1000000 in
theorem two2_any (n b c x y : Nat) (p : Nat → Nat → Bool) (v : Value) (w W : World) (hA : Asker2 v n p w) (hB : Below w.heap.size w W) (hb : W.cell? ⟨b, 0, none⟩ = some v) (hc : W.cell? ⟨c, 0, none⟩ = some (.int .i64 (x : Int))) (hx : x < n) (hy : y < n) :
    Calls Tryd.prog 40 #[.int .i64 (y : Int), .pointer (some ⟨b, 0, none⟩), .pointer (some ⟨c, 0, none⟩)] W fun e w' => e = .returned (.bool (p x y)) ∧ Below W.heap.size W w' := by
  obtain ⟨g, lb, rfl, eg, hA⟩ := hA
  have C := hA W hB x y hx hy
  generalize p x y = q at *
  clear hA
  go_enter Tryd.func40, Tryd.ntmps40
  go_wp2_with (go_at_fn g; refine C.mono ?_; rintro e w3 ⟨rfl, b3⟩)
  go_ret
  exact ⟨rfl, b3⟩
set_option maxHeartbeats 1000000 in
theorem two1_any (n b c x : Nat) (p : Nat → Nat → Bool) (q : Bool) (v : Value) (w : World) (hn : n ≤ 8) (hA : Asker2 v n p w) (hb : Bx w b (.int .i64 (n : Int))) (hc : Bx w c v) (hx : x < n) (hq : allN n (p x) = q) :
    Calls Tryd.prog 39 #[.int .i64 (x : Int), .pointer (some ⟨b, 0, none⟩), .pointer (some ⟨c, 0, none⟩)] w fun e w' => e = .returned (.bool q) ∧ Below w.heap.size w w' := by
  have C : ∀ t, Calls Tryd.prog 31 #[.int .i64 (n : Int), .func (.func 40) #[] #[.pointer (some ⟨c, 0, none⟩), .pointer (some ⟨w.heap.size, 0, none⟩)]] (w.alloc (.cells #[.int .i64 (x : Int)] t)) fun e w' => e = .returned (.bool q) ∧ Below (w.alloc (.cells #[.int .i64 (x : Int)] t)).heap.size (w.alloc (.cells #[.int .i64 (x : Int)] t)) w' := fun t =>
    always_any n (p x) q _ _ hn ⟨_, _, rfl, e68, fun W hB y hy => two2_any n c w.heap.size x y p v _ W (hA.below (balloc w _)) hB ((hc.below (balloc w _)).below hB).2 ((bx_new w _ t).below hB).2 hx hy⟩ hq
  have hb2 := fun t => (hb.below (balloc w (.cells #[.int .i64 (x : Int)] t))).2
  clear hA hq
  go_enter Tryd.func39, Tryd.ntmps39
  go_wp2_with (go_at_call 31; refine (C _).mono ?_; rintro e w3 ⟨rfl, b3⟩)
  go_ret
  exact ⟨rfl, Below.next (balloc w _) b3⟩
set_option maxHeartbeats 1000000 in
theorem alwaysOfTwo_any (n : Nat) (p : Nat → Nat → Bool) (q : Bool) (v : Value) (w : World) (hn : n ≤ 8) (hA : Asker2 v n p w) (hq : allN n (fun x => allN n (p x)) = q) :
    Calls Tryd.prog 33 #[.int .i64 (n : Int), v] w fun e w' => e = .returned (.bool q) ∧ Below w.heap.size w w' := by
  have C : ∀ t u, Calls Tryd.prog 31 #[.int .i64 (n : Int), .func (.func 39) #[] #[.pointer (some ⟨w.heap.size, 0, none⟩), .pointer (some ⟨w.heap.size + 1, 0, none⟩)]] ((w.alloc (.cells #[.int .i64 (n : Int)] t)).alloc (.cells #[v] u)) fun e w' => e = .returned (.bool q) ∧ Below ((w.alloc (.cells #[.int .i64 (n : Int)] t)).alloc (.cells #[v] u)).heap.size ((w.alloc (.cells #[.int .i64 (n : Int)] t)).alloc (.cells #[v] u)) w' := fun t u => by
    have b1 := (bx_new w (.int .i64 (n : Int)) t).below (balloc _ (.cells #[v] u))
    have b2 := bx_new (w.alloc (.cells #[.int .i64 (n : Int)] t)) v u
    have hs : (w.alloc (.cells #[.int .i64 (n : Int)] t)).heap.size = w.heap.size + 1 := by simp
    rw [hs] at b2
    exact always_any n _ q _ _ hn ⟨_, _, rfl, e67, fun W hB x hx => two1_any n w.heap.size (w.heap.size + 1) x p _ v W hn (hA.below (Below.next (Below.next (balloc w _) (balloc _ _)) hB)) (b1.below hB) (b2.below hB) hx rfl⟩ hq
  have hz := fun t u => ((bx_new w (.int .i64 (n : Int)) t).below (balloc _ (.cells #[v] u))).2
  obtain ⟨g, lb, rfl⟩ := hA.form
  clear hA hq
  go_enter Tryd.func33, Tryd.ntmps33
  go_wp2_with (go_at_call 31; refine (C _ _).mono ?_; rintro e w3 ⟨rfl, b3⟩)
  go_ret
  exact ⟨rfl, Below.next (Below.next (balloc w _) (balloc _ _)) b3⟩
end Go.Proofs.YtncnaaohihmjnaaDoor
