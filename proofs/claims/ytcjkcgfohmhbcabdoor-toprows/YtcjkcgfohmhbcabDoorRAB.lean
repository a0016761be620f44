/- What the two tables hold. -/
import Derived.Test.YtcjkcgfohmhbcabDoorK1
import Derived.Test.YtcjkcgfohmhbcabDoorW55
import Derived.Test.YtcjkcgfohmhbcabDoorBase
import Derived.Test.YtcjkcgfohmhbcabDoorRows
import Derived.Test.YtcjkcgfohmhbcabDoorChecked
import Derived.ProofKit
import Derived.SizedLaws
import Derived.LaidMore
import Derived.Lib.LaidTab
import Derived.OpenShut
import Derived.Stop.Joined
import Derived.ChangeOld
import Derived.Lib.SmallJoins
import Derived.Deep.Slices
namespace Go.Proofs.YtcjkcgfohmhbcabDoor
open Go.ChangeShapes Go.WideShapes Go.ChangeAt Go.RowKit Go.Joins

theorem own : ownKnob Tryd.prog.godebug = none := by kernel_rfl
def laidC : List (String × DataW Unit) := [("math/bits.deBruijn64tab", Rows.laid_math_bits_deBruijn64tab), ("parterre/field.primes", Rows.laid_parterre_field_primes)]
theorem doorC (os : Os) (args : Array Value) : laidMetH Tryd.prog laidC ((World.doorLaid Tryd.prog 400 os).forCall (fun _ _ => 0) ⟨#[], args, []⟩).memory :=
  laidMetH_of_parts3 (fuel := 8) (laidMet_of_run' 8 (by kernel_rfl) (by kernel_rfl)) (by kernel_rfl) (by kernel_rfl)
theorem laid_tail {P : Program} {x : String × DataW Unit} {r : List (String × DataW Unit)} {w : World} (h : laidMet P (x :: r) w) : laidMet P r w := by
  obtain ⟨ps, ⟨g, t, cs, fuel, p, q, _, _, _, _, hr, rfl⟩, hn, hc⟩ := h
  exact ⟨q, hr, (List.nodup_append.1 hn).2.1, fun b off hm => hc b off (List.mem_append_right _ hm)⟩
theorem und86 : Tryd.prog.underlying 120 = some (.array 64 5) := by kernel_rfl
theorem und5 : Tryd.prog.underlying 5 = some (.int .u8) := by kernel_rfl
theorem tabB_of {r : List (String × DataW Unit)} {W : World} (h : laidMet Tryd.prog (("math/bits.deBruijn64tab", Rows.laid_math_bits_deBruijn64tab) :: r) W) : Tab W := by
  have hg : Tryd.prog.globalNamed "math/bits.deBruijn64tab" = some 1 := by kernel_rfl
  have ht := Lib.tabIs_of_head (k := .u8) (zs := Lib.deBruijn64tab.map Int.ofNat) (rest := r) (g := 1) (t := 120) (e := 5) (n := 64) hg (by kernel_rfl) und86 und5 (by kernel_rfl) (by kernel_rfl) h
  unfold Lib.TabIs World.var? at ht
  rw [hg] at ht
  simp only [Option.bind_some] at ht
  split at ht
  · rename_i cs t fr e
    simp only [Option.some.injEq] at ht
    subst ht
    exact ⟨t, fr, e⟩
  · cases ht
theorem tabA_of {r : List (String × DataW Unit)} {W : World} (h : laidMet Tryd.prog (("parterre/field.primes", Rows.laid_parterre_field_primes) :: r) W) : Fd.Tab W := by
  have hg : Tryd.prog.globalNamed "parterre/field.primes" = some 0 := by kernel_rfl
  have ht := Lib.tabIs_of_head (k := .i64) (zs := Fd.primeTab) (rest := r) (g := 0) (t := 102) (e := 3) (n := 18) hg (by kernel_rfl) Fd.und69 und3 (by kernel_rfl) (by kernel_rfl) h
  unfold Lib.TabIs World.var? at ht
  rw [hg] at ht
  simp only [Option.bind_some] at ht
  split at ht
  · rename_i cs t fr e
    simp only [Option.some.injEq] at ht
    subst ht
    exact ⟨t, fr, e⟩
  · cases ht
theorem tabsC {W : World} (h : laidMetH Tryd.prog laidC W) : Tab W ∧ Fd.Tab W := by
  rw [MakeChecks.laidMetH_plain _ _ _ (by kernel_rfl)] at h
  exact ⟨tabB_of h, tabA_of (laid_tail h)⟩
end Go.Proofs.YtcjkcgfohmhbcabDoor
