/- slices.Delete at sets: the library's contract, laid here. -/
import Derived.Shelf.SlicesE.Delete
import Derived.Lib.OwnBridge
import Derived.Test.YtnnopfdckillpaaDoorF6
namespace Go.Proofs.YtnnopfdckillpaaDoor
open Go.Shelf Go.RowKit Go.Sort

def delRen : Go.Shelf.Ren := ⟨fun _ => 31, fun k => if k = 22 then 42 else if k = 23 then 46 else k, fun n => n⟩
theorem delLays : Go.Proofs.SlLaysE.n45 Tryd.prog delRen := {
  mixed := by kernel_rfl
  f45 := ⟨Tryd.f31.name, by kernel_rfl, Tryd.func31.trans (congrArg some (by kernel_rfl))⟩
  t0 := Tryd.underlying0
  a0 := Tryd.isAgg0
  z0 := Tryd.sizeOf0
  v0 := Tryd.zeroValue0
  t3 := Tryd.underlying3
  a3 := Tryd.isAgg3
  z3 := Tryd.sizeOf3
  v3 := Tryd.zeroValue3
  t4 := Tryd.underlying4
  a4 := Tryd.isAgg4
  z4 := Tryd.sizeOf4
  v4 := Tryd.zeroValue4
  t22 := Tryd.underlying42
  a22 := Tryd.isAgg42
  z22 := Tryd.sizeOf42
  v22 := Tryd.zeroValue42
  a23 := Tryd.isAgg46
  z23 := Tryd.sizeOf46 }
def encN (s : Nat) : Value := .int .u64 ((s : Nat) : Int)
theorem Delete_any (g cap i : Nat) (S : List Nat) (w : World) (hO : OwnS w g S.length fun j => S.getD j 0) (hi : i < S.length) (hc : S.length ≤ cap) (hcm : cap ≤ maxLen) :
    Calls Tryd.prog 31 #[.slice (some ⟨g, 0, none⟩) S.length cap, .int .i64 (i : Int), .int .i64 ((i : Int) + 1)] w fun e w' => ∃ x, e = .returned x ∧ SC w' x (S.take i ++ S.drop (i + 1)) ∧ ∀ B, B ≤ g → Below B w w' := by
  obtain ⟨i0, hi0, _, hz1, _⟩ := infoS
  have hH : Holds encN w g 0 S.toArray := fun j hj => by
    have hj' : j < S.length := by simpa using hj
    rw [Nat.zero_add]
    refine ⟨?_, hO.frozen j⟩
    rw [hO.cell j hj', getElem!_pos S.toArray j hj, List.getD_eq_getElem?_getD, List.getElem?_eq_getElem hj']
    rfl
  have C := AnyE.slices_Delete delLays encN (fun _ => rfl) 0 Tryd.zeroValue46 i0 hi0 hz1 g 0 cap i (i + 1) S.toArray w hH (by simpa using hc) hcm (by omega) (by show i + 1 ≤ S.toArray.size; rw [List.size_toArray]; exact hi)
  have hsz : (S.take i ++ S.drop (i + 1) ++ List.replicate 1 0).length = S.length := by simp; omega
  refine Calls.mono (show Calls Tryd.prog 31 #[.slice (some ⟨g, 0, none⟩) S.length cap, .int .i64 (i : Int), .int .i64 ((i : Int) + 1)] w _ from C) ?_
  rintro e w' ⟨rfl, q, rfl⟩
  have e1 : i + 1 - i = 1 := by omega
  rw [e1]
  have hH2 := holds_putRow encN (Sort.ahead w q) g 0 S.toArray (S.toArray.toList.take i ++ S.toArray.toList.drop (i + 1) ++ List.replicate 1 0).toArray hH (by simpa using hsz)
  have hlen : (S.take i ++ S.drop (i + 1)).length = S.toArray.size - 1 := by simp; omega
  refine ⟨_, rfl, ?_, fun B hB => Go.Lib.below_putRow (Below.refl _ _) hB⟩
  refine ⟨some ⟨g, 0, none⟩, cap, by rw [hlen], by rw [hlen]; simp; omega, hcm, fun j hj => ⟨g, 0, rfl, fun W hW => ?_⟩⟩
  rw [hlen] at hj
  have hj2 : j < S.length - 1 := by simpa using hj
  rw [hW.cell (p := ⟨g, 0 + j, none⟩) (by show g < _; rw [size_putRow]; exact hO.lt)]
  rw [(hH2 j (by simp; omega)).1]
  unfold encN
  refine congrArg (fun x : Nat => some (Value.int .u64 (x : Int))) ?_
  rw [getElem!_pos _ _ (by simp; omega), List.getD_eq_getElem?_getD]
  rw [← List.getElem?_append_left (l₂ := List.replicate 1 0) (by rw [hlen]; exact hj), List.getElem?_eq_getElem (by rw [hsz]; omega)]
  rfl

end Go.Proofs.YtnnopfdckillpaaDoor
