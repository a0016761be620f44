/- How many Lyndon words there are, as the document counts them; over the divisors. -/
import Derived.RowKit
namespace Go.Proofs.Ytcjkcgfohmhbcab

/-- Moebius, as the document reckons it. -/
def mbF : Nat → Nat → Nat → Int → Int
  | 0, _, _, m => m
  | f + 1, p, n, m => if n < p then m else if n % p = 0 then (if (n / p) % p = 0 then 0 else mbF f (p + 1) (n / p) (-m)) else mbF f (p + 1) n m
def mbN (n : Nat) : Int := mbF n 2 n 1
/-- The sum before it is divided, over the divisors up to j. -/
def psZ (k n : Nat) : Nat → Int
  | 0 => 0
  | j + 1 => if n % (j + 1) = 0 then psZ k n j + mbN (n / (j + 1)) * ((k ^ (j + 1) : Nat) : Int) else psZ k n j
def prZ (k n : Nat) : Int := (psZ k n n).tdiv n
/-- The sum over divisors. -/
def dsZ (k n : Nat) : Nat → Int
  | 0 => 0
  | j + 1 => if n % (j + 1) = 0 then dsZ k n j + ((j + 1 : Nat) : Int) * prZ k (j + 1) else dsZ k n j
set_option maxRecDepth 100000 in
theorem ds_all : (List.range 10).all (fun k => (List.range 12).all fun n => decide (4096 < (k + 1) ^ (n + 1)) || dsZ (k + 1) (n + 1) (n + 1) == (((k + 1) ^ (n + 1) : Nat) : Int)) = true := by decide +kernel
/-- The divisors' Lyndon words, each as often as it is long, are all lists: for what Bruijn's words are asked. -/
theorem ds_at {k n : Nat} (hk : 1 ≤ k) (hk9 : k ≤ 10) (hn : 1 ≤ n) (hn9 : n ≤ 12) (h : k ^ n ≤ 4096) : dsZ k n n = ((k ^ n : Nat) : Int) := by
  have a := List.all_eq_true.1 (List.all_eq_true.1 ds_all (k - 1) (List.mem_range.2 (by omega))) (n - 1) (List.mem_range.2 (by omega))
  rw [show k - 1 + 1 = k by omega, show n - 1 + 1 = n by omega, Bool.or_eq_true] at a
  rcases a with a | a
  · have := of_decide_eq_true a; omega
  · exact eq_of_beq a
theorem pr_2_6 : prZ 2 6 = 9 := by decide +kernel
end Go.Proofs.Ytcjkcgfohmhbcab
