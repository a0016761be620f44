/- A world in which the library's variables hold what they should: that there is one. -/
import Derived.Test.YteocfkkdjejgdaaDoorPBk
import Derived.Lib.LaidIn
namespace Go.Proofs.YteocfkkdjejgdaaDoor
open Go.ChangeShapes Go.WideShapes Go.ChangeAt Go.RowKit Go.Joins

def lit1 : DataW Unit → List Value
  | .lit (.int k z) => [.int k z]
  | _ => []
def lit2 : DataW Unit → List Value
  | .agg ds => ds.flatMap lit1
  | d => lit1 d
def lit3 : DataW Unit → List Value
  | .agg ds => ds.flatMap lit2
  | d => lit1 d
def putB (h : Array Obj) (g : Nat) (cs : Array Value) : Array Obj := h.modify g fun
  | .cells _ t frozen => .cells cs t frozen
  | o => o
noncomputable def doorW (os : Os) : World :=
  let N := (World.settled Tryd.prog os).heap.size
  let w0 := World.holding Tryd.prog os ⟨#[
    .cells #[.slice (some ⟨N + 1, 0, none⟩) 7 7, .slice none 0 0, .int .i64 2] 107,
    .cells (([9, 13, 1, 32, 133, 101, 160, 5760, 5600, 8192, 8202, 1, 8232, 8233, 1, 8239, 8287, 48, 12288, 12288, 1] : List Int).map (Value.int .u16)).toArray 110,
    .cells #[.string ⟨#[118, 97, 108, 117, 101, 32, 111, 117, 116, 32, 111, 102, 32, 114, 97, 110, 103, 101]⟩] 137,
    .cells #[.string ⟨#[105, 110, 118, 97, 108, 105, 100, 32, 115, 121, 110, 116, 97, 120]⟩] 137], #[], []⟩
  let h0 := putB w0.heap 0 (lit3 Rows.laid_strings_asciiSpace).toArray
  let h1 := putB h0 1 #[.pointer (some ⟨N, 0, none⟩)]
  let h3 := putB h1 3 #[.iface 135 (.pointer (some ⟨N + 3, 0, none⟩))]
  let h4 := putB h3 4 #[.iface 135 (.pointer (some ⟨N + 2, 0, none⟩))]
  let h5 := putB h4 5 (lit3 Rows.laid_internal_strconv_uint64pow10).toArray
  let h6 := putB h5 6 (lit3 Rows.laid_unicode_utf8_first).toArray
  let h7 := putB h6 7 (lit3 Rows.laid_unicode_utf8_acceptRanges).toArray
  let h8 := putB h7 8 (lit3 Rows.laid_math_bits_deBruijn32tab).toArray
  let h9 := putB h8 9 (lit3 Rows.laid_math_bits_deBruijn64tab).toArray
  { w0 with heap := h9 }
noncomputable abbrev N0 : Nat := (World.settled Tryd.prog default).heap.size
noncomputable abbrev doorM (os : Os) (args : Array Value) : World := ((doorW os).forCall (fun _ _ => 0) ⟨#[], args, []⟩).memory
theorem piece1 (os : Os) (args : Array Value) : LaidIn Tryd.prog (doorM os args) [("math/bits.deBruijn32tab", Rows.laid_math_bits_deBruijn32tab)] [8] :=
  LaidIn.of_run [8] 8 (by kernel_rfl) (by kernel_rfl) (by kernel_rfl) (by kernel_rfl)
theorem piece2 (os : Os) (args : Array Value) : LaidIn Tryd.prog (doorM os args) [("math/bits.deBruijn64tab", Rows.laid_math_bits_deBruijn64tab)] [9] :=
  LaidIn.of_run [9] 8 (by kernel_rfl) (by kernel_rfl) (by kernel_rfl) (by kernel_rfl)
theorem piece3 (os : Os) (args : Array Value) : LaidIn Tryd.prog (doorM os args) [("internal/strconv.uint64pow10", Rows.laid_internal_strconv_uint64pow10)] [5] :=
  LaidIn.of_run [5] 8 (by kernel_rfl) (by kernel_rfl) (by kernel_rfl) (by kernel_rfl)
theorem piece4 (os : Os) (args : Array Value) : LaidIn Tryd.prog (doorM os args) [("unicode/utf8.acceptRanges", Rows.laid_unicode_utf8_acceptRanges)] [7] :=
  LaidIn.of_run [7] 8 (by kernel_rfl) (by kernel_rfl) (by kernel_rfl) (by kernel_rfl)
theorem piece5 (os : Os) (args : Array Value) : LaidIn Tryd.prog (doorM os args) [("strconv.ErrRange", Rows.laid_strconv_ErrRange), ("strconv.ErrSyntax", Rows.laid_strconv_ErrSyntax)] [4, 3, N0 + 2, N0 + 3] :=
  LaidIn.of_run [4, 3, N0 + 2, N0 + 3] 8 (by kernel_rfl) (by kernel_rfl) (by kernel_rfl) (by kernel_rfl)
theorem piece6 (os : Os) (args : Array Value) : LaidIn Tryd.prog (doorM os args) [("unicode.White_Space", Rows.laid_unicode_White_Space)] [1, N0, N0 + 1] :=
  LaidIn.of_run [1, N0, N0 + 1] 10 (by kernel_rfl) (by kernel_rfl) (by kernel_rfl) (by kernel_rfl)
theorem piece7 (os : Os) (args : Array Value) : LaidIn Tryd.prog (doorM os args) [("strings.asciiSpace", Rows.laid_strings_asciiSpace)] [0] :=
  LaidIn.of_run [0] 8 (by kernel_rfl) (by kernel_rfl) (by kernel_rfl) (by kernel_rfl)
theorem piece8 (os : Os) (args : Array Value) : LaidIn Tryd.prog (doorM os args) [("unicode/utf8.first", Rows.laid_unicode_utf8_first)] [6] :=
  LaidIn.of_run [6] 8 (by kernel_rfl) (by kernel_rfl) (by kernel_rfl) (by kernel_rfl)
theorem door_met (os : Os) (args : Array Value) : laidMetH Tryd.prog laid9 (doorM os args) := by
  rw [MakeChecks.laidMetH_plain _ _ _ (by kernel_rfl)]
  exact ((((((((piece1 os args).append (piece2 os args) (by kernel_rfl)).append (piece3 os args) (by kernel_rfl)).append (piece4 os args) (by kernel_rfl)).append (piece5 os args) (by kernel_rfl)).append (piece6 os args) (by kernel_rfl)).append (piece7 os args) (by kernel_rfl)).append (piece8 os args) (by kernel_rfl)).met
theorem door_shaped (os : Os) (args : Array Value) : ((doorW os).forCall (fun _ _ => 0) ⟨#[], args, []⟩).Shaped Tryd.prog :=
  World.shaped_of_RefB (by kernel_rfl) (by kernel_rfl)

end Go.Proofs.YteocfkkdjejgdaaDoor
