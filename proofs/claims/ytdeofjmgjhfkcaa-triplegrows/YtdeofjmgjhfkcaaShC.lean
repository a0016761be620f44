/- The library's cmp.Compare at numbers, by its contract, at this program's own numbers. -/
import Derived.Test.YtdeofjmgjhfkcaaPBase
import Derived.Ground.SlgcProg
import Derived.Shelf.SlicesG.Cmp
namespace Go.Proofs.Ytdeofjmgjhfkcaa
open Go.Shelf Go.RowKit Go.Lib

def cmpI_ren : Go.Shelf.Ren := ⟨fun | 5 => 75 | 7 => 91 | n => n, fun | 3 => 3 | 4 => 4 | 22 => 3 | n => n, fun | n => n⟩
theorem cmpI : Go.Proofs.SlLaysC2.n5 Try.prog cmpI_ren := {
  mixed := by kernel_rfl
  f5 := ⟨Try.f75.name, by decide, Try.func75.trans (congrArg some (by kernel_rfl))⟩
  f7 := ⟨Try.f91.name, by decide, Try.func91.trans (congrArg some (by kernel_rfl))⟩
  t3 := Try.underlying3
  a3 := Try.isAgg3
  z3 := Try.sizeOf3
  v3 := Try.zeroValue3
  t4 := Try.underlying4
  a4 := Try.isAgg4
  z4 := Try.sizeOf4
  v4 := Try.zeroValue4
  t22 := Try.underlying3
  a22 := Try.isAgg3
  z22 := Try.sizeOf3
  v22 := Try.zeroValue3 }

end Go.Proofs.Ytdeofjmgjhfkcaa
