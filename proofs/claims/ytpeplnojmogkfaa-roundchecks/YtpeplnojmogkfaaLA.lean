/- What each face is to tell. -/
import Derived.Test.YtpeplnojmogkfaaQ8
import Derived.Test.YtpeplnojmogkfaaDLi
namespace Go.Proofs.Ytpeplnojmogkfaa
open Go.RowKit

/-- Rows xs they come. -/
structure RwC (w : World) (u : Value) (rs : List (List Int)) : Prop where
  rw : Rw w u rs
  len : rs.length ≤ maxLen
  all : ∀ r ∈ rs, r.length ≤ maxLen
theorem RwC.below {w w' : World} {u : Value} {rs : List (List Int)} (h : RwC w u rs) (b : Below w.heap.size w w') : RwC w' u rs := ⟨h.rw.below b, h.len, h.all⟩
theorem RwC.form {w : World} {u : Value} {rs : List (List Int)} (h : RwC w u rs) : ∃ a m c, u = .slice a m c := by
  obtain ⟨a, c, e, _⟩ := h.rw
  exact ⟨a, _, c, e⟩
theorem rw_form {w : World} {u : Value} {rs : List (List Int)} (h : Rw w u rs) : ∃ a m c, u = .slice a m c ∧ Hid (rs.length = m) := by
  obtain ⟨a, c, e, _⟩ := h
  exact ⟨a, _, c, e, rfl⟩
theorem toZ_inj {A B : List (List Nat)} (h : toZ A = toZ B) : A = B := by
  unfold toZ at h
  refine List.map_inj_right (fun a b hab => ?_) |>.1 h
  exact List.map_inj_right (fun x y e => Int.ofNat.inj e) |>.1 hab
theorem prZ_inj {A B : List (Nat × Nat)} (h : prZ A = prZ B) : A = B := by rw [← qO_prZ A, h, qO_prZ]
theorem toZ_len (A : List (List Nat)) : (toZ A).length = A.length := by simp [toZ]
def PfcZ (n : Int) (ls : List (List Int)) : Prop := ∃ N L, n = ((N : Nat) : Int) ∧ ls = toZ L ∧ GoodR N L ∧ Pfc N L
theorem pfcZ_good {N : Nat} {L : List (List Nat)} (h : GoodR N L) : PfcZ N (toZ L) ↔ Pfc N L := by
  constructor
  · rintro ⟨N', L', e1, e2, _, h'⟩
    obtain rfl : N = N' := by omega
    obtain rfl := toZ_inj e2
    exact h'
  · exact fun h' => ⟨N, L, rfl, rfl, h, h'⟩
theorem pfcZ_bad {n : Int} {ls : List (List Int)} (h : rF n ls ≠ 0) : ¬ PfcZ n ls := by
  rintro ⟨N, L, rfl, rfl, hG, _⟩
  exact h hG.rF
def RmsZ (n : Int) (xs ys : List (List Int)) : Prop := ∃ N A B, n = ((N : Nat) : Int) ∧ xs = toZ A ∧ ys = toZ B ∧ GoodR N A ∧ GoodR N B ∧ Rms N A B
theorem rmsZ_good {N : Nat} {A B : List (List Nat)} (h : GoodR N A) (k : GoodR N B) : RmsZ N (toZ A) (toZ B) ↔ Rms N A B := by
  constructor
  · rintro ⟨N', A', B', e1, e2, e3, _, _, h'⟩
    obtain rfl : N = N' := by omega
    obtain rfl := toZ_inj e2
    obtain rfl := toZ_inj e3
    exact h'
  · exact fun h' => ⟨N, A, B, rfl, rfl, rfl, h, k, h'⟩
/-- What Rooms says first. -/
def rF2 (n : Int) (xs ys : List (List Int)) : Nat := if rF n xs ≠ 0 then rF n xs else rF n ys
theorem rmsZ_bad {n : Int} {xs ys : List (List Int)} (h : rF2 n xs ys ≠ 0) : ¬ RmsZ n xs ys := by
  rintro ⟨N, A, B, rfl, rfl, rfl, hG, hH, _⟩
  unfold rF2 at h
  have e1 : rF (N : Int) (toZ A) = 0 := hG.rF
  have e2 : rF (N : Int) (toZ B) = 0 := hH.rF
  rw [if_neg (by rw [e1]; simp)] at h
  exact h e2
def ceZ (n : Int) : Nat := if n < 2 ∨ 16 < n ∨ n % 2 = 1 then 1 else 0
def crZ (n : Int) : List (List Int) := if n < 2 ∨ 16 < n ∨ n % 2 = 1 then [] else toZ (crL n.toNat)
def StgZ (v : Int) (ps : List (List Int)) : Prop := ∃ V qs, v = ((V : Nat) : Int) ∧ ps = prZ qs ∧ St V qs ∧ Stg V qs
theorem stgZ_good {V : Nat} {qs : List (Nat × Nat)} (h : St V qs) : StgZ V (prZ qs) ↔ Stg V qs := by
  constructor
  · rintro ⟨V', qs', e1, e2, _, h'⟩
    obtain rfl : V = V' := by omega
    obtain rfl := prZ_inj e2
    exact h'
  · exact fun h' => ⟨V, qs, rfl, rfl, h, h'⟩
theorem stgZ_bad {v : Int} {ps : List (List Int)} (h : sF v ps ≠ 0) : ¬ StgZ v ps := by
  rintro ⟨V, qs, rfl, rfl, hS, _⟩
  exact h hS.sF
def dvZ (v : Int) (ps : List (List Int)) : List (List Int) := if sF v ps = 0 then toZ (dvR v.toNat (ps.map qO)) else []
theorem dvZ_good {V : Nat} {qs : List (Nat × Nat)} (h : St V qs) : dvZ V (prZ qs) = toZ (dvR V qs) := by
  unfold dvZ
  rw [if_pos h.sF, Int.toNat_natCast, qO_prZ]
/-- The contracts of the program's faces. -/
def FCheck : Prop := ∀ (n : Int) (ls : List (List Int)) (v : Value) (w : World), RwC w v ls →
  Calls Try.prog 9 #[.int .i64 n, v] w fun e w' => e = .returned (.int .i64 (rF n ls : Int)) ∧ Below w.heap.size w w'
def FPerfect : Prop := ∀ (n : Int) (ls : List (List Int)) (v : Value) (w : World), RwC w v ls →
  Calls Try.prog 10 #[.int .i64 n, v] w fun e w' => (∃ b : Bool, e = .returned (.tuple #[.bool b, .int .i64 (rF n ls : Int)]) ∧ (b = true ↔ PfcZ n ls)) ∧ Below w.heap.size w w'
def FRooms : Prop := ∀ (n : Int) (xs ys : List (List Int)) (u v : Value) (w : World), RwC w u xs → RwC w v ys →
  Calls Try.prog 12 #[.int .i64 n, u, v] w fun e w' => (∃ b : Bool, e = .returned (.tuple #[.bool b, .int .i64 (rF2 n xs ys : Int)]) ∧ (b = true ↔ RmsZ n xs ys)) ∧ Below w.heap.size w w'
def FCircle : Prop := ∀ (n : Int) (w : World),
  Calls Try.prog 14 #[.int .i64 n] w fun e w' => (∃ y, e = .returned (.tuple #[y, .int .i64 (ceZ n : Int)]) ∧ Rw w' y (crZ n)) ∧ Below w.heap.size w w'
def FStarter : Prop := ∀ (v : Int) (ps : List (List Int)) (u : Value) (w : World), RwC w u ps →
  Calls Try.prog 18 #[.int .i64 v, u] w fun e w' => e = .returned (.int .i64 (sF v ps : Int)) ∧ Below w.heap.size w w'
def FStrong : Prop := ∀ (v : Int) (ps : List (List Int)) (u : Value) (w : World), RwC w u ps →
  Calls Try.prog 19 #[.int .i64 v, u] w fun e w' => (∃ b : Bool, e = .returned (.tuple #[.bool b, .int .i64 (sF v ps : Int)]) ∧ (b = true ↔ StgZ v ps)) ∧ Below w.heap.size w w'
def FDevelop : Prop := ∀ (v : Int) (ps : List (List Int)) (u : Value) (w : World), RwC w u ps →
  Calls Try.prog 20 #[.int .i64 v, u] w fun e w' => (∃ y, e = .returned (.tuple #[y, .int .i64 (sF v ps : Int)]) ∧ Rw w' y (dvZ v ps)) ∧ Below w.heap.size w w'
/-- The document's circle, at any number. -/
theorem CircleOf_any (n : Int) (w : World) : Calls Try.prog 15 #[.int .i64 n] w fun e w' => (∃ y, e = .returned (.tuple #[y, .int .i64 (ceZ n : Int)]) ∧ Rw w' y (crZ n)) ∧ Below w.heap.size w w' := by
  by_cases h : n < 2 ∨ 16 < n ∨ n % 2 = 1
  · unfold ceZ crZ
    rw [if_pos h, if_pos h]
    exact (CircleOf_bad n w h).mono fun e w' ⟨h1, h2⟩ => ⟨⟨_, h1, none, 0, rfl, Nat.le_refl _, fun i l hi => by simp at hi⟩, h2⟩
  · obtain ⟨N, rfl⟩ : ∃ N : Nat, n = N := ⟨n.toNat, by omega⟩
    unfold ceZ crZ
    rw [if_neg h, if_neg h, Int.toNat_natCast]
    exact (CircleOf_ok N w (by omega) (by omega) (by omega)).mono fun e w' ⟨⟨y, h1, h2⟩, h3⟩ => ⟨⟨y, h1, h2.rw⟩, h3⟩
theorem crZ_small (n : Int) : (crZ n).length ≤ maxLen ∧ ∀ l ∈ crZ n, l.length ≤ maxLen := by
  unfold crZ
  by_cases h : n < 2 ∨ 16 < n ∨ n % 2 = 1
  · rw [if_pos h]; simp
  · rw [if_neg h]
    unfold maxLen
    refine ⟨by rw [toZ_len, crL_len]; omega, fun l hl => ?_⟩
    obtain ⟨s, hs, rfl⟩ := List.mem_map.1 hl
    obtain ⟨r, _, rfl⟩ := List.mem_map.1 hs
    rw [List.length_map]
    simp [crR]
    omega
theorem dvZ_small (v : Int) (ps : List (List Int)) : (dvZ v ps).length ≤ maxLen ∧ ∀ l ∈ dvZ v ps, l.length ≤ maxLen := by
  unfold dvZ
  by_cases h : sF v ps = 0
  · rw [if_pos h]
    obtain ⟨V, qs, rfl, rfl, hS⟩ := sF_ok h
    have := hS.v15
    unfold maxLen
    rw [Int.toNat_natCast]
    refine ⟨by rw [toZ_len, dvR_len]; omega, fun l hl => ?_⟩
    obtain ⟨s, hs, rfl⟩ := List.mem_map.1 hl
    obtain ⟨r, _, rfl⟩ := List.mem_map.1 hs
    rw [List.length_map]
    simp [dvL]
    omega
  · rw [if_neg h]; simp
end Go.Proofs.Ytpeplnojmogkfaa
