/- The walk of lessOne: what a set becomes when one thing is left out, one after another. -/
import Derived.Test.YtmogmkdcplgfjaaY8
import Derived.Test.YtmogmkdcplgfjaaY5
import Derived.Test.YtmogmkdcplgfjaaRY
import Derived.RangeFuncBound
import Derived.RangeFuncCalls
import Derived.Shelf.RegionOpen
import Derived.OwnWalkIn
import Derived.TacticsInMore
import Derived.LoopNIn
import Derived.LoopIn
import Derived.Stop.RegionWithIn
namespace Go.Proofs.Ytmogmkdcplgfjaa
open Go.RowKit Go.Shelf

attribute [local go_sem] Oper.semAt_some

def encI (p : Nat) : Array Value := #[.int .i64 (p : Int)]
/-- A block of the caller's is kept. -/
def KB (b : Nat) (_ : Nat) (A B : World) : Prop := B.heap[b]? = A.heap[b]?
def AbN (_ _ _ : World) : Prop := False
def markOf (r : Nat) : Deferred := { target := .collected r, args := #[] }
theorem wide_no {p : Prop} (h : Fence.wide.depth.isSome = true) : p := by cases h
theorem boxAt {W W' : World} {B : Nat} {t : TypeId} {v : Value} (h : Boxed W B t v) (hb : W'.heap[B]? = W.heap[B]?) : Boxed W' B t v := hb.trans h
theorem below_put {n l : Nat} (A : World) (o : Obj) (h : n ≤ l) : Below n A (A.putObj l o) := ⟨rfl, rfl, rfl, by simp [World.putObj], fun b hb => World.putObj_heap_other (by omega)⟩

theorem lessOne_any (s : Nat) (w : World) :
    Calls Try.prog 49 #[.int .i64 (s : Int)] w fun e w' => e = .returned (.func (.func 56) #[] #[.pointer (some ⟨w.heap.size, 0, none⟩)]) ∧ w' = w.alloc (.cells #[.int .i64 (s : Int)] 3) := by
  go_enter Try.func49, Try.ntmps49
  go_wp2
  go_ret
  exact ⟨rfl, rfl⟩

set_option maxRecDepth 100000 in
set_option maxHeartbeats 4000000 in
theorem less_runs (s n bs : Nat) (w : World) (hs : s < 4096) (h1 : Boxed w bs 3 (.int .i64 (s : Int))) : Runs n Try.prog 56 #[.pointer (some ⟨bs, 0, none⟩)] (lsL s) encI (KB bs) AbN w := by
  intro l J Jx W hbW hl1 hl2 hJ hJx hY hJ0
  have b1 : Boxed W bs 3 (.int .i64 (s : Int)) := boxLow h1 hbW h1.lt
  have c1 := b1.cell
  have HY : Hid (∀ (i y : Nat) (A : World) (m : Nat), (lsL s)[i]? = some y → J i A → YieldAt Fence.wide m Try.prog l #[.int .i64 (y : Int)] A fun e B => (e = .returned (.bool true) ∧ J (i + 1) B ∧ KB bs l A B) ∨ (e = .returned (.bool false) ∧ Jx i B ∧ KB bs l A B)) := fun i y A m hx hA => YieldAt.anyD (hY i y A hx hA) m
  have HLN : Hid ((lsL s).length = (bt s).length) := by show _ = _; unfold lsL; rw [List.length_map]
  clear hJ hJx hY h1
  refine callsIn_of_wp Try.func56 rfl trivial ?_ rfl
  simp only [Try.ntmps56, List.size_toArray, List.length_cons, List.length_nil, Nat.reduceAdd, Nat.reduceSub, Array.replicate_succ, Array.replicate_zero, List.push_toArray, List.append_toArray, List.nil_append, List.cons_append]
  gi_wp2
  gi_loopw [3] (fun lv wr => ∃ i y : Nat, lv = .int .i64 (y : Int) ∧ y < 4096 ∧ Hid ((bt s).drop i = bt y) ∧ Hid (i ≤ (bt s).length) ∧ J i wr ∧ Boxed wr bs 3 (.int .i64 (s : Int))) (fun lv _ => (bt (intOf lv).toNat).length)
  case atStart => exact ⟨0, s, rfl, hs, (rfl : (bt s).drop 0 = bt s), (Nat.zero_le _ : 0 ≤ (bt s).length), hJ0, b1⟩
  case round =>
    clear c1 b1 hJ0
    obtain ⟨i, y, rfl, hy4, HD, HLE, hJi, hBi⟩ := hrel
    have c2 := hBi.cell
    cases hb : bt y with
    | nil =>
      obtain rfl := bt_none hy4 hb
      have hlen : (bt s).length ≤ i := by
        have := HD.out
        rw [hb] at this
        exact List.drop_eq_nil_iff.1 this
      have hlt : i ≤ (bt s).length := HLE.out
      have hie : i = (lsL s).length := by rw [HLN.out]; omega
      subst hie
      clear hb hlen hlt
      gi_wp2
      go_end0
      exact ⟨⟨_, rfl⟩, .inl hJi⟩
    | cons u t =>
      have hy0 : 0 < y := by
        rcases Nat.eq_zero_or_pos y with e | e
        · subst e; cases hb
        · exact e
      have hd : decide (0 < y) = true := by simpa using hy0
      have hd2 : decide (0 < (y : Int)) = true := by simp; omega
      obtain ⟨o1, o2, o3⟩ := bt_off hy4 hb
      have hatb : (bt s)[i]? = some u := by
        have h2 := HD.out
        rw [hb] at h2
        have := congrArg (·[0]?) h2
        simpa [List.getElem?_drop] using this
      have hus : u ∈ bt s := List.mem_of_getElem? hatb
      obtain ⟨m1, m2, -⟩ := bt_less hs hus
      have hat : (lsL s)[i]? = some (s - 2 ^ u) := by unfold lsL; rw [List.getElem?_map, hatb]; rfl
      have huy : u ∈ bt y := by rw [hb]; exact List.mem_cons_self
      have m3 := (bt_less hy4 huy).2.1
      have HNX : Hid ((bt s).drop (i + 1) = bt (y - 2 ^ u)) := by
        show _ = _
        have h2 := HD.out
        rw [hb] at h2
        have := congrArg (·.drop 1) h2
        rw [o3]
        simpa [List.drop_drop] using this
      have HLE2 : Hid (i + 1 ≤ (bt s).length) := (List.getElem?_eq_some_iff.1 hatb).1
      have HM : Hid ((bt (y - 2 ^ u)).length < (bt y).length) := by show _ < _; rw [o3, hb]; simp
      obtain ⟨p, Hp⟩ : ∃ p, Hid (2 ^ u = p) := ⟨_, (rfl : 2 ^ u = 2 ^ u)⟩
      have hp2 : ((2 ^ u : Nat) : Int) = (p : Int) := by rw [Hp.out]
      rw [hp2] at o1 m1
      rw [Hp.out] at o2 m1 m2 m3 hat HNX HM
      obtain ⟨z, Hz⟩ : ∃ z, Hid (y - p = z) := ⟨_, rfl⟩
      have hz4 : z < 4096 := by have := Hz.out; omega
      rw [Hz.out] at o2 HNX HM
      obtain ⟨x, Hx⟩ : ∃ x, Hid (s - p = x) := ⟨_, rfl⟩
      rw [Hx.out] at m1 hat
      have ey : IntKind.i64.wrap (-(y : Int)) = -(y : Int) := IntWalk.i64_in _ (by omega)
      have ey1 : (y : Int) - 1 = ((y - 1 : Nat) : Int) := by omega
      obtain ⟨y1, Hy1⟩ : ∃ y1, Hid (y - 1 = y1) := ⟨_, rfl⟩
      have hy14 : y1 < 4096 := by have := Hy1.out; omega
      rw [Hy1.out] at o2 ey1
      have ew1 : IntKind.i64.wrap (y1 : Int) = (y1 : Int) := IntWalk.i64_in _ (by omega)
      obtain ⟨fn, tmps, assign, body, hy, hR⟩ := HY.out i x wr (n - 1) hat hJi
      clear hb o3 hatb hus hat huy m2 m3 hp2
      gi_wp2
      refine ⟨(fun h => wide_no h), hR.mono ?_⟩
      rintro e C (⟨rfl, hJ3, hk3⟩ | ⟨rfl, hJ3, hk3⟩)
      · have hB3 : Boxed C bs 3 (.int .i64 (s : Int)) := boxAt hBi hk3
        clear hy hR c2
        gi_wp2
        go_roundw
        case rel => exact ⟨i + 1, z, rfl, by omega, HNX, HLE2, hJ3, hB3⟩
        case measure => simpa [intOf] using HM.out
      · clear hy hR c2
        gi_wp2
        refine bodyPost_ret (results_none rfl _ _ _) rfl ?_
        exact ⟨⟨_, rfl⟩, .inr ⟨_, hJ3⟩⟩

end Go.Proofs.Ytmogmkdcplgfjaa
