/- Gray's numbers go on by one digit, round; each stands once. -/
import Derived.Test.YtcjkcgfohmhbcaaWF
namespace Go.Proofs.Ytcjkcgfohmhbcaa
open Go.RowKit

def okB (d : Nat) : Bool := (d != 0) && (d &&& (d - 1) == 0)
def stB (f : Nat) : List Nat → Bool
  | [] => true
  | a :: r => match r with
    | [] => okB (a ^^^ f)
    | b :: _ => okB (a ^^^ b) && stB f r
theorem stB_at (f : Nat) : ∀ (l : List Nat), stB f l = true → ∀ i, i < l.length → okB (l.getD i 0 ^^^ (if i + 1 < l.length then l.getD (i + 1) 0 else f)) = true
  | [], _, i, h => absurd h (Nat.not_lt_zero i)
  | [a], h, i, hi => by
    have : i = 0 := by simpa using hi
    subst this
    exact h
  | a :: b :: r, h, 0, _ => by
    have h2 : (okB (a ^^^ b) && stB f (b :: r)) = true := h
    rw [Bool.and_eq_true] at h2
    rw [if_pos (by simp)]
    exact h2.1
  | a :: b :: r, h, i + 1, hi => by
    have h2 : (okB (a ^^^ b) && stB f (b :: r)) = true := h
    rw [Bool.and_eq_true] at h2
    have h3 := stB_at f (b :: r) h2.2 i (by simpa using hi)
    have e : (i + 1 + 1 < (a :: b :: r).length) = (i + 1 < (b :: r).length) := by simp
    rw [show (a :: b :: r).getD (i + 1) 0 = (b :: r).getD i 0 from rfl, show (a :: b :: r).getD (i + 1 + 1) 0 = (b :: r).getD (i + 1) 0 from rfl]
    simp only [e]
    exact h3
set_option maxRecDepth 100000 in
theorem stB_all : (List.range 12).all (fun n => stB 0 (grL (n + 1))) = true := by decide +kernel
theorem grL_nodup : ∀ i, (grL i).Nodup
  | 0 => by simp [grL]
  | i + 1 => by
    unfold grL
    rw [List.nodup_append]
    refine ⟨grL_nodup i, ?_, ?_⟩
    · refine List.pairwise_map.2 (List.pairwise_reverse.2 ((grL_nodup i).imp ?_))
      intro a b h e
      exact h (Nat.add_right_cancel e).symm
    · intro a ha b hb
      obtain ⟨y, _, rfl⟩ := List.mem_map.1 hb
      have := grL_lt i a ha
      omega
theorem grL_zero : ∀ i, (grL i).getD 0 0 = 0
  | 0 => rfl
  | i + 1 => by
    unfold grL
    have h : 0 < (grL i).length := by rw [grL_len]; exact Nat.two_pow_pos i
    rw [List.getD_eq_getElem?_getD, List.getElem?_append_left h, ← List.getD_eq_getElem?_getD, grL_zero i]
theorem gray_step {n : Nat} (hn : n ≤ 12) {i : Nat} (hi : i < 2 ^ n) :
    okB ((grL n).getD i 0 ^^^ (grL n).getD ((i + 1) % 2 ^ n) 0) = true ∨ n = 0 ∧ (grL n).getD i 0 ^^^ (grL n).getD ((i + 1) % 2 ^ n) 0 = 0 := by
  rcases Nat.eq_zero_or_pos n with h0 | h0
  · right
    subst h0
    have : i = 0 := by simpa using hi
    subst this
    exact ⟨rfl, rfl⟩
  · left
    have a := List.all_eq_true.1 stB_all (n - 1) (List.mem_range.2 (by omega))
    rw [show n - 1 + 1 = n by omega] at a
    have h := stB_at 0 _ a i (by rw [grL_len]; exact hi)
    rw [grL_len] at h
    by_cases h1 : i + 1 < 2 ^ n
    · rw [if_pos h1] at h
      rw [Nat.mod_eq_of_lt h1]
      exact h
    · rw [if_neg h1] at h
      rw [show i + 1 = 2 ^ n by omega, Nat.mod_self, grL_zero]
      exact h
theorem xorS {a b : Nat} (ha : a < 4096) (hb : b < 4096) : bits .xor .i64 (a : Int) (b : Int) = ((a ^^^ b : Nat) : Int) := by
  have hx : a ^^^ b < 2 ^ 12 := Nat.xor_lt_two_pow (by omega) (by omega)
  have h1 : (BitVec.ofInt (8 * 8) (a : Int)).toNat = a := by
    rw [BitVec.ofInt_natCast, BitVec.toNat_ofNat]; exact Nat.mod_eq_of_lt (by omega)
  have h2 : (BitVec.ofInt (8 * 8) (b : Int)).toNat = b := by
    rw [BitVec.ofInt_natCast, BitVec.toNat_ofNat]; exact Nat.mod_eq_of_lt (by omega)
  show IntKind.i64.wrap ((BitVec.ofInt (8 * 8) (a : Int) ^^^ BitVec.ofInt (8 * 8) (b : Int)).toNat : Int) = _
  rw [BitVec.toNat_xor, h1, h2, IntKind.wrap_i64]
  omega
theorem andS {a b : Nat} (ha : a < 4096) (hb : b < 4096) : bits .and .i64 (a : Int) (b : Int) = ((a &&& b : Nat) : Int) := by
  have hx : a &&& b < 2 ^ 12 := Nat.and_lt_two_pow a (by omega)
  have h1 : (BitVec.ofInt (8 * 8) (a : Int)).toNat = a := by
    rw [BitVec.ofInt_natCast, BitVec.toNat_ofNat]; exact Nat.mod_eq_of_lt (by omega)
  have h2 : (BitVec.ofInt (8 * 8) (b : Int)).toNat = b := by
    rw [BitVec.ofInt_natCast, BitVec.toNat_ofNat]; exact Nat.mod_eq_of_lt (by omega)
  show IntKind.i64.wrap ((BitVec.ofInt (8 * 8) (a : Int) &&& BitVec.ofInt (8 * 8) (b : Int)).toNat : Int) = _
  rw [BitVec.toNat_and, h1, h2, IntKind.wrap_i64]
  omega
theorem and_less {d : Nat} (hd : d < 4096) (h : okB d = true ∨ d = 0) : bits .and .i64 (d : Int) ((d : Int) - 1) = 0 := by
  rcases Nat.eq_zero_or_pos d with h0 | h0
  · subst h0; decide +kernel
  · rw [show (d : Int) - 1 = ((d - 1 : Nat) : Int) by omega, andS hd (by omega)]
    rcases h with h | h
    · unfold okB at h
      rw [Bool.and_eq_true] at h
      rw [eq_of_beq h.2]; rfl
    · omega
theorem pl_at_gray {n i : Nat} (hn : n ≤ 12) (hi : i < 2 ^ n) : plE n ((grL n).getD i 0 : Nat) = 0 ∧ plZ n ((grL n).getD i 0 : Nat) = i := by
  have h1 : grE (n : Int) = 0 := by unfold grE; rw [if_neg (by omega)]
  have h2 : grZ (n : Int) = grL n := by unfold grZ; rw [if_neg (by omega), Int.toNat_natCast]
  have hil : i < (grL n).length := by rw [grL_len]; exact hi
  have hx : (grL n).getD i 0 = (grL n)[i] := by rw [List.getD_eq_getElem?_getD, List.getElem?_eq_getElem hil]; rfl
  have hlt := grL_lt n ((grL n)[i]) (List.getElem_mem hil)
  have h3 : plE n ((grL n).getD i 0 : Nat) = 0 := by
    unfold plE
    rw [if_pos]
    refine ⟨h1, Int.natCast_nonneg _, ?_⟩
    rw [h2, grL_len, hx]
    omega
  refine ⟨h3, ?_⟩
  unfold plZ
  rw [if_pos h3, h2, Int.toNat_natCast, hx]
  exact (grL_nodup n).idxOf_getElem i hil
theorem take_no {n i : Nat} (hi : i < 2 ^ n) : ((grL n).take i).contains ((grL n).getD i 0) = false := by
  have hil : i < (grL n).length := by rw [grL_len]; exact hi
  rw [Bool.eq_false_iff]
  intro h
  rw [List.contains_iff_mem] at h
  obtain ⟨j, hj, e⟩ := List.mem_iff_getElem.1 h
  rw [List.length_take] at hj
  rw [List.getElem_take, List.getD_eq_getElem?_getD, List.getElem?_eq_getElem hil, Option.getD_some] at e
  have h1 := (grL_nodup n).idxOf_getElem i hil
  have h2 := (grL_nodup n).idxOf_getElem j (by omega)
  rw [e] at h2
  omega
theorem take_set {n i : Nat} (hi : i < 2 ^ n) : updV (fun x => ((grL n).take i).contains x) ((grL n).getD i 0) true = fun x => ((grL n).take (i + 1)).contains x := by
  have hil : i < (grL n).length := by rw [grL_len]; exact hi
  funext x
  unfold updV
  have e1 : (grL n).take (i + 1) = (grL n).take i ++ [(grL n)[i]] := by rw [List.take_add_one, List.getElem?_eq_getElem hil]; rfl
  rw [e1, List.getD_eq_getElem?_getD, List.getElem?_eq_getElem hil, Option.getD_some]
  by_cases e : x = (grL n)[i]
  · rw [if_pos e]
    exact (List.contains_iff_mem.2 (List.mem_append_right _ (List.mem_singleton.2 e))).symm
  · rw [if_neg e, Bool.eq_iff_iff, List.contains_iff_mem, List.contains_iff_mem, List.mem_append, List.mem_singleton]
    exact ⟨Or.inl, fun h => h.resolve_right e⟩
end Go.Proofs.Ytcjkcgfohmhbcaa
