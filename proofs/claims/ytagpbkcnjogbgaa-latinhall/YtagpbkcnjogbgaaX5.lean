/- The walks of extended, of its closure, of checkRows' closure. -/
import Derived.Test.YtagpbkcnjogbgaaX4
namespace Go.Proofs.Ytagpbkcnjogbgaa
open Go.RowKit Go.Maps

theorem e41 : ∀ args w, (callFunc 41 args).run Try.prog w = .ok (.enter 41 args) w := enters_of Try.func41 (by kernel_rfl) rfl
theorem e37 : ∀ args w, (callFunc 37 args).run Try.prog w = .ok (.enter 37 args) w := enters_of Try.func37 (by kernel_rfl) rfl
set_option maxHeartbeats 4000000 in
theorem extended1_any (n b r c : Nat) (ls : List (List Int)) (l : List Int) (v : Value) (W : World) (hv : Rw W v ls) (_hl : ls.length ≤ 8) (hr : ls[r]? = some l) (hln : l.length = n) (hc : c < n) (_hn : n ≤ 8) (h0 : 0 ≤ l.getD c 0) (hb : W.cell? ⟨b, 0, none⟩ = some v) :
    Calls Try.prog 41 #[.int .i64 (r : Int), .int .i64 (c : Int), .pointer (some ⟨b, 0, none⟩)] W fun e w' => e = .returned (.int .i64 ((l.getD c 0).toNat : Int)) ∧ Below W.heap.size W w' := by
  obtain ⟨a, cap, rfl, h⟩ := hv
  obtain ⟨b1, o1, u, rfl, h1, hs⟩ := h r l hr
  obtain ⟨b2, o2, c2, rfl, h2, h3⟩ := hs.form hln (by omega)
  have h4 := h3 c hc
  have hrl : r < ls.length := (List.getElem?_eq_some_iff.1 hr).1
  have hri : (r : Int) < (ls.length : Int) := by omega
  have hci : (c : Int) < (n : Int) := by omega
  have e : ((l.getD c 0).toNat : Int) = l.getD c 0 := by omega
  rw [e]
  generalize l.getD c 0 = x at *
  generalize ls.length = m at *
  clear h h3 hs e
  go_enter Try.func41, Try.ntmps41
  go_wp2
  go_ret
  exact ⟨rfl, Below.refl _ _⟩
set_option maxHeartbeats 4000000 in
theorem checkRows1_any (n b r c : Nat) (ls : List (List Int)) (l : List Int) (v : Value) (W : World) (hv : Rw W v ls) (_hl : ls.length ≤ 8) (hr : ls[r]? = some l) (hln : l.length = n) (hc : c < n) (_hn : n ≤ 8) (h0 : 0 ≤ l.getD c 0) (hb : W.cell? ⟨b, 0, none⟩ = some v) :
    Calls Try.prog 37 #[.int .i64 (r : Int), .int .i64 (c : Int), .pointer (some ⟨b, 0, none⟩)] W fun e w' => e = .returned (.int .i64 ((l.getD c 0).toNat : Int)) ∧ Below W.heap.size W w' := by
  obtain ⟨a, cap, rfl, h⟩ := hv
  obtain ⟨b1, o1, u, rfl, h1, hs⟩ := h r l hr
  obtain ⟨b2, o2, c2, rfl, h2, h3⟩ := hs.form hln (by omega)
  have h4 := h3 c hc
  have hrl : r < ls.length := (List.getElem?_eq_some_iff.1 hr).1
  have hri : (r : Int) < (ls.length : Int) := by omega
  have hci : (c : Int) < (n : Int) := by omega
  have e : ((l.getD c 0).toNat : Int) = l.getD c 0 := by omega
  rw [e]
  generalize l.getD c 0 = x at *
  generalize ls.length = m at *
  clear h h3 hs e
  go_enter Try.func37, Try.ntmps37
  go_wp2
  go_ret
  exact ⟨rfl, Below.refl _ _⟩

end Go.Proofs.Ytagpbkcnjogbgaa
