/- The P-th power is a linear map: by a table of the images of 1, x, x x, .., field by field, which the kernel checks. -/
import Derived.Test.YtogdcjlgddleaaaDoorAlgE
namespace Go.Proofs.YtogdcjlgddleaaaDoor.Fd

/-- Of each field of the table of powers, in its order: what the P-th power makes of 1, x, x x, .. -/
def frobTab : List (Nat × Nat × Nat × List Nat) := [
  (2, 2, 3, [1, 3]),
  (2, 3, 3, [1, 4, 6]),
  (2, 3, 5, [1, 4, 7]),
  (2, 4, 3, [1, 4, 3, 12]),
  (2, 4, 9, [1, 4, 9, 15]),
  (2, 4, 15, [1, 4, 15, 2]),
  (2, 5, 5, [1, 4, 16, 10, 13]),
  (2, 5, 9, [1, 4, 16, 18, 26]),
  (2, 5, 15, [1, 4, 16, 30, 9]),
  (2, 5, 23, [1, 4, 16, 25, 10]),
  (2, 5, 27, [1, 4, 16, 13, 15]),
  (2, 5, 29, [1, 4, 16, 7, 28]),
  (2, 6, 3, [1, 4, 16, 3, 12, 48]),
  (2, 6, 9, [1, 4, 16, 9, 36, 2]),
  (2, 6, 23, [1, 4, 16, 23, 11, 44]),
  (2, 6, 27, [1, 4, 16, 27, 55, 49]),
  (2, 6, 33, [1, 4, 16, 33, 39, 63]),
  (2, 6, 39, [1, 4, 16, 39, 53, 26]),
  (2, 6, 45, [1, 4, 16, 45, 3, 12]),
  (2, 6, 51, [1, 4, 16, 51, 42, 61]),
  (2, 6, 53, [1, 4, 16, 53, 62, 18]),
  (3, 2, 1, [1, 6]),
  (3, 2, 5, [1, 8]),
  (3, 2, 8, [1, 7]),
  (3, 3, 7, [1, 5, 13]),
  (3, 3, 8, [1, 4, 16]),
  (3, 3, 11, [1, 19, 21]),
  (3, 3, 14, [1, 25, 5]),
  (3, 3, 16, [1, 23, 10]),
  (3, 3, 19, [1, 11, 24]),
  (3, 3, 22, [1, 17, 8]),
  (3, 3, 26, [1, 13, 10]),
  (5, 2, 2, [1, 20]),
  (5, 2, 3, [1, 20]),
  (5, 2, 6, [1, 24]),
  (5, 2, 7, [1, 24]),
  (5, 2, 13, [1, 23]),
  (5, 2, 14, [1, 23]),
  (5, 2, 18, [1, 22]),
  (5, 2, 19, [1, 22]),
  (5, 2, 21, [1, 21]),
  (5, 2, 22, [1, 21]),
  (7, 2, 1, [1, 42]),
  (7, 2, 2, [1, 42]),
  (7, 2, 4, [1, 42]),
  (7, 2, 10, [1, 48]),
  (7, 2, 11, [1, 48]),
  (7, 2, 13, [1, 48]),
  (7, 2, 16, [1, 47]),
  (7, 2, 17, [1, 47]),
  (7, 2, 19, [1, 47]),
  (7, 2, 22, [1, 46]),
  (7, 2, 26, [1, 46]),
  (7, 2, 27, [1, 46]),
  (7, 2, 29, [1, 45]),
  (7, 2, 33, [1, 45]),
  (7, 2, 34, [1, 45]),
  (7, 2, 37, [1, 44]),
  (7, 2, 38, [1, 44]),
  (7, 2, 40, [1, 44]),
  (7, 2, 45, [1, 43]),
  (7, 2, 46, [1, 43]),
  (7, 2, 48, [1, 43]),
  (2, 1, 0, [1]),
  (3, 1, 0, [1]),
  (5, 1, 0, [1]),
  (7, 1, 0, [1]),
  (11, 1, 0, [1]),
  (13, 1, 0, [1]),
  (17, 1, 0, [1]),
  (19, 1, 0, [1]),
  (23, 1, 0, [1]),
  (29, 1, 0, [1]),
  (31, 1, 0, [1]),
  (37, 1, 0, [1]),
  (41, 1, 0, [1]),
  (43, 1, 0, [1]),
  (47, 1, 0, [1]),
  (53, 1, 0, [1]),
  (59, 1, 0, [1]),
  (61, 1, 0, [1])]
/-- A linear map: what it makes of an element, told by what it makes of 1, x, x x, .. -/
def linS (P : Nat) (FX : List Nat) (u : Nat → Int) (t : Nat) : Nat → Int
  | 0 => 0
  | j + 1 => linS P FX u t j + u j * digF (FX.getD j 0) P t
def linF (P K : Nat) (FX : List Nat) (v : Nat) : Nat → Int := fun t => linS P FX (digF v P) t K % P
def linQ (P K : Nat) (FX : List Nat) (v : Nat) : Nat := (hor (linF P K FX v) P K K).toNat
def frobChk : (Nat × Nat × Nat × Nat × Nat × List Nat) × (Nat × Nat × Nat × List Nat) → Bool
  | ((P, K, n, _, _, L), (P', K', n', FX)) => P == P' && K == K' && n == n' && (List.range (P ^ K - 1)).all fun i => linQ P K FX (L.getD i 0) == L.getD (i * P % (P ^ K - 1)) 0
theorem frob_ok : (genTab.zip frobTab).all frobChk = true := by decide +kernel
theorem frob_len : genTab.length ≤ frobTab.length := by decide +kernel

end Go.Proofs.YtogdcjlgddleaaaDoor.Fd
