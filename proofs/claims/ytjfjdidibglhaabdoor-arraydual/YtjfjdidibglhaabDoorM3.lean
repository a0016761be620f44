/- array.spanned, walked: all of a space, of its basis. -/
import Derived.Test.YtjfjdidibglhaabDoorYB8
import Derived.Deep.RegionHeld3
import Derived.Test.YtjfjdidibglhaabDoorSpB
import Derived.Deep.AppendLies
import Derived.Test.YtjfjdidibglhaabDoorArL
/- The document's Span, walked. -/
/- The document's Open, Shut, lead and added, walked. -/
/- The document's RowFault and RowsFault, walked. -/
/- What is asked first: spaceFact. -/
namespace Go.Proofs.YtjfjdidibglhaabDoor.Fd
theorem fault_tot (p k : Int) (l : List Int) : ∃ z, FaultIs p k l z := by
  by_cases h1 : ordZ p k = 0
  · exact ⟨1, .inl ⟨h1, rfl⟩⟩
  by_cases h2 : (l.length : Int) = k
  · by_cases h3 : inL p l
    · by_cases h4 : irrP (monL l) k.toNat p.toNat
      · exact ⟨0, .inr (.inr (.inr (.inr ⟨h1, h2, h3, h4, rfl⟩)))⟩
      · exact ⟨4, .inr (.inr (.inr (.inl ⟨h1, h2, h3, h4, rfl⟩)))⟩
    · exact ⟨1, .inr (.inr (.inl ⟨h1, h2, h3, rfl⟩))⟩
  · exact ⟨2, .inr (.inl ⟨h1, h2, rfl⟩)⟩
theorem f31_ord : ordZ 3 1 = 3 := by decide +kernel
theorem f31_yes : goodAt 3 1 0 := by
  intro e h1 h2
  omega
theorem f31_least {q d : Int} {l : List Int} {z : Int} (h : LeastIs 3 1 q d l z) : q = 3 ∧ d = 1 ∧ l = digL 0 3 1 ∧ z = 0 :=
  h.one (.inr ⟨3, 1, rfl, rfl, by rw [f31_ord]; decide, .inl ⟨0, by decide, f31_yes, fun m hm => by omega, rfl, rfl, rfl, rfl⟩⟩)
theorem f31_good : GoodF 3 1 (digL 0 3 1) := by
  have hin : inL (3 : Int) (digL 0 3 1) := fun j hj => by
    rw [digL_length] at hj
    rw [digL_at _ _ _ _ hj]; exact digF_in 0 3 (by omega) j
  have hirr : irrP (monL (digL 0 3 1)) 1 3 := by rw [monL_dig 0 3 1 (by decide) (by decide)]; exact f31_yes
  have hF : FaultIs ((3 : Nat) : Int) ((1 : Nat) : Int) (digL 0 3 1) 0 := .inr (.inr (.inr (.inr ⟨by rw [show ((3 : Nat) : Int) = 3 from rfl, show ((1 : Nat) : Int) = 1 from rfl, f31_ord]; decide, by rw [digL_length], hin, hirr, rfl⟩)))
  obtain ⟨P, K, e1, e2, hG⟩ := good_of hF
  obtain rfl : 3 = P := by omega
  obtain rfl : 1 = K := by omega
  exact hG
end Go.Proofs.YtjfjdidibglhaabDoor.Fd
namespace Go.Proofs.YtjfjdidibglhaabDoor
open Go.RowKit

def S0 : List (List Nat) := [[1, 2, 0], [2, 1, 1]]
def X0 : List (List Nat) := [[1, 2, 0], [0, 0, 1]]
abbrev a31 : Nat → Nat → Nat := adF 3 1
abbrev m31 : Nat → Nat → Nat := muF 3 1 (Fd.digL 0 3 1)
theorem s0_rws : Rws (3 ^ 1) 3 S0 := fun r hr => by
  simp only [S0, List.mem_cons, List.not_mem_nil, or_false] at hr
  rcases hr with rfl | rfl
  · exact ⟨rfl, by decide⟩
  · exact ⟨rfl, by decide⟩
theorem x0_rref : Rref (3 ^ 1) 3 X0 where
  rws := fun r hr => by
    simp only [X0, List.mem_cons, List.not_mem_nil, or_false] at hr
    rcases hr with rfl | rfl
    · exact ⟨rfl, by decide⟩
    · exact ⟨rfl, by decide⟩
  one := by decide
  inc := by decide
  col := by decide
theorem x0_bas : BasIs (3 ^ 1) a31 m31 3 (Spn (3 ^ 1) a31 m31 3 S0) X0 := by
  have hF : FqR (3 ^ 1) a31 m31 (ngF 3 1) := Fd.field_fqr Fd.f31_good.field
  refine ⟨x0_rref, spn_same hF x0_rref.rws s0_rws (fun r hr => ?_) (fun r hr => ?_)⟩
  · simp only [X0, List.mem_cons, List.not_mem_nil, or_false] at hr
    rcases hr with rfl | rfl
    · exact Spn.row hF s0_rws (by simp [S0])
    · have h := Spn.step (q := 3 ^ 1) (ad := a31) (mu := m31) (n := 3) (R := S0) (Spn.row hF s0_rws (r := [2, 1, 1]) (by simp [S0])) (r := [1, 2, 0]) (c := 1) (by simp [S0]) (by decide)
      have e : adV a31 3 [2, 1, 1] (smV m31 3 1 [1, 2, 0]) = [0, 0, 1] := by decide +kernel
      rw [e] at h
      exact h
  · simp only [S0, List.mem_cons, List.not_mem_nil, or_false] at hr
    rcases hr with rfl | rfl
    · exact Spn.row hF x0_rref.rws (by simp [X0])
    · have h := Spn.step (q := 3 ^ 1) (ad := a31) (mu := m31) (n := 3) (R := X0) (Spn.row hF x0_rref.rws (r := [0, 0, 1]) (by simp [X0])) (r := [1, 2, 0]) (c := 2) (by simp [X0]) (by decide)
      have e : adV a31 3 [0, 0, 1] (smV m31 3 2 [1, 2, 0]) = [2, 1, 1] := by decide +kernel
      rw [e] at h
      exact h
theorem gs_422 : gs 2 4 2 = 35 := by decide +kernel
/-- The two rows as they are built. -/
theorem s0_rw (w : World) : Rw (((w.alloc (.cells #[.int .i64 1, .int .i64 2, .int .i64 0] 3)).alloc (.cells #[.int .i64 2, .int .i64 1, .int .i64 1] 3)).alloc (.cells #[.slice (some ⟨w.heap.size, 0, none⟩) 3 3, .slice (some ⟨w.heap.size + 1, 0, none⟩) 3 3] 22)) (.slice (some ⟨w.heap.size + 1 + 1, 0, none⟩) 2 2) (toZ S0) := by
  have e1 : (w.alloc (.cells #[.int .i64 1, .int .i64 2, .int .i64 0] 3)).heap.size = w.heap.size + 1 := by simp
  have e2 : ((w.alloc (.cells #[.int .i64 1, .int .i64 2, .int .i64 0] 3)).alloc (.cells #[.int .i64 2, .int .i64 1, .int .i64 1] 3)).heap.size = w.heap.size + 1 + 1 := by simp
  have b1 := balloc (w.alloc (.cells #[.int .i64 1, .int .i64 2, .int .i64 0] 3)) (.cells #[.int .i64 2, .int .i64 1, .int .i64 1] 3)
  have b2 := balloc ((w.alloc (.cells #[.int .i64 1, .int .i64 2, .int .i64 0] 3)).alloc (.cells #[.int .i64 2, .int .i64 1, .int .i64 1] 3)) (.cells #[.slice (some ⟨w.heap.size, 0, none⟩) 3 3, .slice (some ⟨w.heap.size + 1, 0, none⟩) 3 3] 22)
  have k0 := heap_alloc_new w (.cells #[.int .i64 1, .int .i64 2, .int .i64 0] 3)
  have k1 := heap_alloc_new (w.alloc (.cells #[.int .i64 1, .int .i64 2, .int .i64 0] 3)) (.cells #[.int .i64 2, .int .i64 1, .int .i64 1] 3)
  rw [e1] at k1
  have k2 := heap_alloc_new ((w.alloc (.cells #[.int .i64 1, .int .i64 2, .int .i64 0] 3)).alloc (.cells #[.int .i64 2, .int .i64 1, .int .i64 1] 3)) (.cells #[.slice (some ⟨w.heap.size, 0, none⟩) 3 3, .slice (some ⟨w.heap.size + 1, 0, none⟩) 3 3] 22)
  rw [e2] at k2
  have h0 := (b2.block w.heap.size (by omega)).trans ((b1.block w.heap.size (by omega)).trans k0)
  have h1 := (b2.block (w.heap.size + 1) (by omega)).trans k1
  refine ⟨_, 2, rfl, fun i l hl => ?_⟩
  have hi : i < 2 := by have := (List.getElem?_eq_some_iff.1 hl).1; simpa [toZ, S0] using this
  match i, hi with
  | 0, _ =>
    obtain rfl : [1, 2, 0] = l := by simpa [toZ, S0] using hl
    refine ⟨_, 0, _, rfl, by rw [cell_of_row _ _ _ _ _ _ k2]; rfl, _, 3, rfl, fun j hj => ⟨_, 0, rfl, ?_⟩⟩
    rw [cell_of_row _ _ _ _ _ _ h0]
    have hj3 : j < 3 := by simpa using hj
    match j, hj3 with
    | 0, _ => rfl
    | 1, _ => rfl
    | 2, _ => rfl
  | 1, _ =>
    obtain rfl : [2, 1, 1] = l := by simpa [toZ, S0] using hl
    refine ⟨_, 0, _, rfl, by rw [cell_of_row _ _ _ _ _ _ k2]; rfl, _, 3, rfl, fun j hj => ⟨_, 0, rfl, ?_⟩⟩
    rw [cell_of_row _ _ _ _ _ _ h1]
    have hj3 : j < 3 := by simpa using hj
    match j, hj3 with
    | 0, _ => rfl
    | 1, _ => rfl
    | 2, _ => rfl
end Go.Proofs.YtjfjdidibglhaabDoor

/- What the program answers of any field, any number and any rows. -/
namespace Go.Proofs.YtjfjdidibglhaabDoor
open Go.RowKit

/-- A room that is none: open says what is wrong, whatever the rows. -/
structure RmE (p k : Int) (l : List Int) (n z : Int) : Prop where
  ne : z ≠ 0
  is : (Fd.FaultIs p k l z) ∨ (Fd.FaultIs p k l 0 ∧ ¬ (1 ≤ n ∧ n ≤ 6) ∧ z = 1) ∨ (∃ P K N : Nat, p = P ∧ k = K ∧ n = N ∧ Fd.GoodF P K l ∧ 1 ≤ N ∧ N ≤ 6 ∧ 4096 < (P ^ K) ^ N ∧ z = 3)
theorem RmE.op {p k n z : Int} {l : List Int} {v : Value} {w : World} (h : RmE p k l n z) (hT : Fd.Tab w) (hl : Fd.Sl w v l) (hll : l.length ≤ maxLen) (vs : List Value) (rss : List (List (List Int))) (rv : Value) : OpC p k n v vs rss w z rv := by
  rcases h.is with h1 | ⟨h1, h2, rfl⟩ | ⟨P, K, N, rfl, rfl, rfl, hG, h1, h6, hf, rfl⟩
  · exact opc_fault hT hl hll h1 h.ne vs rss rv
  · obtain ⟨P, K, rfl, rfl, hG⟩ := Fd.good_of h1
    exact opc_far ⟨hT, hl, hll, hG⟩ h2 vs rss rv
  · exact opc_full ⟨hT, hl, hll, hG⟩ h1 h6 hf vs rss rv
/-- A room. -/
structure RmO (p k : Int) (l : List Int) (n : Int) (P K N : Nat) : Prop where
  ep : p = P
  ek : k = K
  en : n = N
  good : Fd.GoodF P K l
  h1 : 1 ≤ N
  h6 : N ≤ 6
  hf : (P ^ K) ^ N ≤ 4096
theorem room_cases (p k : Int) (l : List Int) (n : Int) : (∃ z, RmE p k l n z) ∨ ∃ P K N, RmO p k l n P K N := by
  obtain ⟨z, hz⟩ := Fd.fault_tot p k l
  by_cases h0 : z = 0
  · subst h0
    by_cases h1 : 1 ≤ n ∧ n ≤ 6
    · obtain ⟨P, K, rfl, rfl, hG⟩ := Fd.good_of hz
      have hn : n = (n.toNat : Int) := by omega
      by_cases h2 : 4096 < (P ^ K) ^ n.toNat
      · exact .inl ⟨3, by decide, .inr (.inr ⟨P, K, n.toNat, rfl, rfl, hn, hG, by omega, by omega, h2, rfl⟩)⟩
      · exact .inr ⟨P, K, n.toNat, rfl, rfl, hn, hG, by omega, by omega, by omega⟩
    · exact .inl ⟨1, by decide, .inr (.inl ⟨hz, h1, rfl⟩)⟩
  · exact .inl ⟨z, h0, .inl hz⟩
/-- An answer: a basis, or what is wrong. -/
def AnsB (q : Nat) (ad mu : Nat → Nat → Nat) (n : Nat) (V : List Nat → Prop) (z : Int) (e : Ending) (w' : World) : Prop := ∃ a m c, e = .returned (.tuple #[.slice a m c, .int .i64 z]) ∧ m ≤ 6 ∧ (z = 0 → ∃ ls, BasIs q ad mu n V ls ∧ Hid (ls.length = m) ∧ Rw w' (.slice a m c) (toZ ls))
theorem BaR.ans {q : Nat} {ad mu : Nat → Nat → Nat} {n : Nat} {V : List Nat → Prop} {e : Ending} {w' : World} (hn : n ≤ 6) (h : BaR q ad mu n V e w') : AnsB q ad mu n V 0 e w' := by
  obtain ⟨x, ls, rfl, hB, hx⟩ := h
  obtain ⟨a, m, c, rfl, Hm⟩ := rw_formH hx
  exact ⟨a, m, c, rfl, by have := rref_le hB.rref; rw [Hm.out] at this; omega, fun _ => ⟨ls, hB, Hm, hx⟩⟩
theorem ans_err {q : Nat} {ad mu : Nat → Nat → Nat} {n : Nat} {V : List Nat → Prop} {z : Int} {e : Ending} {w' : World} (h0 : z ≠ 0) (h : e = .returned (.tuple #[.slice none 0 0, .int .i64 z])) : AnsB q ad mu n V z e w' := ⟨none, 0, 0, h, by omega, fun h => absurd h h0⟩
/-- Rows that are rows: as numbers. -/
theorem rs_nat {q n : Nat} {rs : List (List Int)} (h : rsE q n rs = 0) : ∃ S, rs = toZ S ∧ Rws q n S ∧ S.length ≤ 12 := by
  unfold rsE at h
  by_cases h1 : 12 < rs.length
  · rw [if_pos h1] at h; omega
  · rw [if_neg h1] at h
    have h2 := rlE_ok h
    have h3 : ∀ r ∈ rs, r = (r.map Int.toNat).map Int.ofNat ∧ Vc q n (r.map Int.toNat) := fun r hr => by
      obtain ⟨s, hs, rfl⟩ := rwE_nat (h2 r hr)
      have e : (s.map Int.ofNat).map Int.toNat = s := by
        rw [List.map_map]
        have : (Int.toNat ∘ Int.ofNat) = id := by funext x; rfl
        rw [this, List.map_id]
      rw [e]
      exact ⟨rfl, hs⟩
    refine ⟨rs.map fun r => r.map Int.toNat, ?_, fun s hs => ?_, by simp; omega⟩
    · unfold toZ
      rw [List.map_map]
      conv => lhs; rw [← List.map_id rs]
      exact List.map_congr_left fun r hr => (h3 r hr).1
    · obtain ⟨r, hr, rfl⟩ := List.mem_map.1 hs
      exact (h3 r hr).2
theorem rs_zero {q n : Nat} {S : List (List Nat)} (h : Rws q n S) (hl : S.length ≤ 12) : rsE q n (toZ S) = 0 := by
  unfold rsE
  rw [if_neg (by rw [toZ_len]; omega)]
  refine rlE_all fun j s hs => ?_
  obtain ⟨r, hr, rfl⟩ := List.mem_map.1 (List.mem_of_getElem? hs)
  exact rwE_vc (h r hr)
theorem lsE_one {q n : Nat} (rs : List (List Int)) : lsE q n [rs] = rsE q n rs := by
  unfold lsE
  split
  · rfl
  · rename_i h
    have : rsE q n rs = 0 := Classical.byContradiction fun k => h k
    rw [this]; rfl
theorem lsE_two {q n : Nat} {rs ss : List (List Int)} : lsE q n [rs, ss] = if rsE q n rs ≠ 0 then rsE q n rs else rsE q n ss := by
  show (if rsE q n rs ≠ 0 then rsE q n rs else lsE q n [ss]) = _
  rw [lsE_one]
section
variable {P K n : Nat} {l : List Int} {v : Value} {w : World}
theorem Basis_ans (hF : Fld P K l v w) (h1 : 1 ≤ n) (h6 : n ≤ 6) (hf : (P ^ K) ^ n ≤ 4096) {u : Value} {rs : List (List Int)} (hu : RwC w u rs) {S : List (List Nat)} (hS : rsE (P ^ K) n rs = 0 → rs = toZ S) :
    Calls Tryd.prog 17 #[.agg #[.int .i64 (P : Int), .int .i64 (K : Int), v], .int .i64 (n : Int), u] w fun e w' => AnsB (P ^ K) (adF P K) (muF P K l) n (Spn (P ^ K) (adF P K) (muF P K l) n S) (rsE (P ^ K) n rs : Int) e w' ∧ Below w.heap.size w w' := by
  have hv : ∃ a m c, v = .slice a m c := by obtain ⟨a, c, e, _⟩ := hF.sl; exact ⟨a, _, c, e⟩
  have hO := opc_rows hF h1 h6 hf [u] [rs] (by simp) (lsE_one rs)
  by_cases h0 : rsE (P ^ K) n rs = 0
  · obtain ⟨S', e, hR, hl⟩ := rs_nat h0
    have eS : S' = S := by
      have : toZ S' = toZ S := by rw [← e]; exact hS h0
      have hi : ∀ (A B : List (List Nat)), toZ A = toZ B → A = B := fun A B h => by
        unfold toZ at h
        refine List.map_inj_right (fun a b hab => ?_) |>.1 h
        exact List.map_inj_right (fun x y hxy => Int.ofNat.inj hxy) |>.1 hab
      exact hi _ _ this
    subst eS
    subst e
    rw [h0] at hO ⊢
    exact (Basis_ok P K n l v u S' w hF hu.rw hR hl h1 h6 hO).mono fun e w' ⟨h, b⟩ => ⟨h.ans h6, b⟩
  · exact (Basis_err P K n _ v u rs _ w hv hu hO (by omega)).mono fun e w' ⟨h, b⟩ => ⟨ans_err (by omega) h, b⟩
end
end Go.Proofs.YtjfjdidibglhaabDoor

/- The document's RoomFault, RowFault and RowsFault, walked. -/
namespace Go.Proofs.YtjfjdidibglhaabDoor.Fd
open Go.RowKit
theorem SumG (P K a b : Nat) (l : List Int) (v : Value) (w : World) (hl : Sl w v l) (hG : GoodF P K l) (ha : a < P ^ K) (hb : b < P ^ K) :
    Calls Tryd.prog 55 #[.agg #[.int .i64 P, .int .i64 K, v], .int .i64 a, .int .i64 b] w fun e w' => e = .returned (.int .i64 (addQ P K a b : Int)) ∧ Below w.heap.size w w' := by
  obtain ⟨A, c, rfl, _⟩ := hl
  have h := sum_any P K a b A l.length c w hG.field.two (by have := hG.le61; omega) hG.field.one hG.le6 hG.le64 ha hb
  rw [← addQ_cast hG.field.two] at h
  exact h
theorem TimesG (P K a b : Nat) (l : List Int) (v : Value) (w : World) (hl : Sl w v l) (hG : GoodF P K l) (ha : a < P ^ K) (hb : b < P ^ K) :
    Calls Tryd.prog 25 #[.agg #[.int .i64 P, .int .i64 K, v], .int .i64 a, .int .i64 b] w fun e w' => e = .returned (.int .i64 (mulQ P K (monL l) a b : Int)) ∧ Below w.heap.size w w' := by
  have hg := good_parts hG.fault
  obtain ⟨P', K', e1, e2, _, _, _, _, _, _, _, hmi, hmK, _⟩ := hg
  obtain rfl : P = P' := by omega
  obtain rfl : K = K' := by omega
  have h := timesRef_any P K a b l v w hl hG.len hG.field.two (by have := hG.le61; omega) hG.field.one hG.le6 hG.le64 ha hb hmi hmK
  rw [← mulQ_cast hG.field.toRing1] at h
  exact h
end Go.Proofs.YtjfjdidibglhaabDoor.Fd
namespace Go.Proofs.YtjfjdidibglhaabDoor
open Go.RowKit

theorem Fld.size {P K : Nat} {l : List Int} {v : Value} {w : World} (hF : Fld P K l v w) {q : Nat} (hq : Hid (P ^ K = q)) (W : World) : Calls Tryd.prog 8 #[.agg #[.int .i64 (P : Int), .int .i64 (K : Int), v]] W fun e w' => e = .returned (.int .i64 (q : Int)) ∧ Below W.heap.size W w' := by
  have h := Fd.size_any P K v W
  rw [hF.good.ord, hq.out] at h
  exact h
end Go.Proofs.YtjfjdidibglhaabDoor

namespace Go.Proofs.YtjfjdidibglhaabDoor
open Go.RowKit

theorem inB_cast {P K : Nat} {l : List Int} (hG : Fd.GoodF P K l) (y : Int) : Fd.inB (Fd.ordZ (P : Int) K) y = decide (0 ≤ y ∧ y < ((P ^ K : Nat) : Int)) := by
  rw [hG.ord]
  by_cases h : 0 ≤ y ∧ y < ((P ^ K : Nat) : Int)
  · rw [decide_eq_true h, Fd.inB_iff]; exact h
  · rw [decide_eq_false h, Bool.eq_false_iff]
    intro k
    exact h ((Fd.inB_iff _ _).1 k)
end Go.Proofs.YtjfjdidibglhaabDoor

namespace Go.Proofs.YtjfjdidibglhaabDoor
open Go.RowKit

theorem opn_at (q : Nat) : ∀ (n c i : Nat), i < n → (opn q n c).getD i 0 = c / q ^ (n - 1 - i) % q
  | 0, _, _, h => by omega
  | n + 1, c, i, h => by
    have hl := opn_len q n (c / q)
    rw [opn]
    by_cases e : i < n
    · have h1 : (opn q n (c / q) ++ [c % q]).getD i 0 = (opn q n (c / q)).getD i 0 := by
        simp [List.getD_eq_getElem?_getD, List.getElem?_append_left (show i < (opn q n (c / q)).length by omega)]
      rw [h1, opn_at q n (c / q) i e, Nat.div_div_eq_div_mul, show n + 1 - 1 - i = (n - 1 - i) + 1 by omega, Nat.pow_succ, Nat.mul_comm q]
    · obtain rfl : i = n := by omega
      have h1 : (opn q i (c / q) ++ [c % q]).getD i 0 = c % q := by
        simp [List.getD_eq_getElem?_getD, hl]
      rw [h1, show i + 1 - 1 - i = 0 by omega, Nat.pow_zero, Nat.div_one]
set_option maxRecDepth 100000 in
set_option maxHeartbeats 8000000 in
theorem Open_any (P K n c : Nat) (l : List Int) (v : Value) (w : World) (hF : Fld P K l v w) (hn : n ≤ 6) (hc : c < 4096) :
    Calls Tryd.prog 12 #[.agg #[.int .i64 (P : Int), .int .i64 (K : Int), v], .int .i64 (n : Int), .int .i64 (c : Int)] w fun e w' => ∃ g, e = .returned (.slice (some ⟨g, 0, none⟩) n n) ∧ w.heap.size ≤ g ∧ OwnN w' g n (fun i => (opn (P ^ K) n c).getD i 0) ∧ Below w.heap.size w w' := by
  have hbx := balloc w (.cells #[.int .i64 (P : Int), .int .i64 (K : Int), v] 24)
  have HX := fl_box (P : Int) (K : Int) v w
  obtain ⟨q, Hq⟩ : ∃ q, Hid (P ^ K = q) := ⟨_, rfl⟩
  have CS := fun W => hF.size Hq W
  have hq64 : q ≤ 64 := by rw [← Hq.out]; exact hF.good.le64
  have hq1 : 1 < q := by rw [← Hq.out]; exact hF.fqr.one
  rw [Hq.out]
  have CD := fun W => Fd.digits_any c q n W hc (by omega) hq64 (by omega)
  have hmk := run_makeN n (by omega)
  have HOp : Hid (∀ i, i < n → Fd.digF c q (n - 1 - i) = (((opn q n c).getD i 0 : Nat) : Int)) := fun i hi => by
    rw [opn_at q n c i hi]
    unfold Fd.digF
    rfl
  have HDg : Hid (∀ j, j < n → (Fd.digL c q n).getD j 0 = Fd.digF c q j) := fun j hj => Fd.digL_at _ _ _ _ hj
  have HDl : Hid ((Fd.digL c q n).length = n) := Fd.digL_length _ _ _
  obtain ⟨f, Hf⟩ : ∃ f : Nat → Nat, Hid (∀ i, (opn q n c).getD i 0 = f i) := ⟨fun i => (opn q n c).getD i 0, fun i => rfl⟩
  simp only [Hf.out] at HOp ⊢
  have HOL : Hid (∀ i, i < n → f i < q) := fun i _ => by rw [← Hf.out]; exact (opn_vc (by omega) n c).at (by omega) i
  obtain ⟨fa, fn, fc, rfl⟩ : ∃ fa fn fc, v = .slice fa fn fc := by obtain ⟨a, c, e, _⟩ := hF.sl; exact ⟨a, _, c, e⟩
  obtain ⟨x0, x1, x2⟩ := HX _ (Below.refl _ _)
  clear hF HX Hf
  go_enter Tryd.func12, Tryd.ntmps12
  go_wp2_with (first
    | (go_at_call 8; refine (CS _).mono ?_; rintro e w1 ⟨rfl, b1⟩; clear CS; have D := CD w1; clear CD)
    | (go_at_call 27; refine D.mono ?_; rintro e w2 ⟨dv, rfl, hd, b2⟩; clear D; have hds : Sl w2 dv (Fd.digL c q n) := Sl.owned (by rw [HDl.out]; exact hd); obtain ⟨da, dc, rfl⟩ : ∃ a c, dv = .slice a n c := (by obtain ⟨a, c, e, _⟩ := hds; rw [HDl.out] at e; exact ⟨a, c, e⟩)))
  have hB2 := Below.next (Below.next hbx b1) b2
  have b3 := balloc w2 (.cells (madeCells #[.int .i64 0] n) 3)
  have hm0 := own_new w2 n
  obtain ⟨w3, Hw3⟩ : ∃ w3, Hid (w2.alloc (.cells (madeCells #[.int .i64 0] n) 3) = w3) := ⟨_, rfl⟩
  rw [Hw3.out] at b3 hm0 ⊢
  have HDs : Hid (∀ j, j < n → ∃ b off, da = some ⟨b, off, none⟩ ∧ b < w2.heap.size ∧ ∀ W, Below w2.heap.size w2 W → W.cell? ⟨b, off + j, none⟩ = some (.int .i64 (Fd.digF c q j))) := fun j hj => by
    obtain ⟨a', c', e', h⟩ := hds
    obtain ⟨rfl, rfl⟩ : da = a' ∧ dc = c' := by
      simp only [Value.slice.injEq] at e'
      exact ⟨e'.1, e'.2.2⟩
    obtain ⟨b, off, e, hc⟩ := h j (by rw [HDl.out]; exact hj)
    rw [HDg.out j hj] at hc
    have hlt : b < w2.heap.size := by simpa using block_lt_of_cell hc
    exact ⟨b, off, e, hlt, fun W bW => (bW.cell (p := ⟨b, off + j, none⟩) hlt).trans hc⟩
  clear hds hd hmk
  go_loopw [10] (fun jv wr => ∃ j : Nat, jv = .int .i64 (j : Int) ∧ j ≤ n ∧ OwnN wr w2.heap.size n (fun i => if i < j then f i else 0) ∧ Below w2.heap.size w2 wr) (fun jv _ => (n - intOf jv).toNat)
  case atStart => exact ⟨0, rfl, by omega, hm0, b3⟩
  case round =>
    clear hm0 b3
    obtain ⟨j, rfl, hj, hm, hB⟩ := hrel
    by_cases hlt : j < n
    · have hji : (j : Int) < (n : Int) := by omega
      have hdj : decide ((j : Int) < (n : Int)) = true := by simp; omega
      obtain ⟨t, Ht⟩ : ∃ t, Hid (n - 1 - j = t) := ⟨_, rfl⟩
      have hti : (n : Int) - 1 - (j : Int) = (t : Int) := by have := Ht.out; omega
      have htn : t < n := by have := Ht.out; omega
      have htni : (t : Int) < (n : Int) := by omega
      obtain ⟨b, off, rfl, hbl, hcell⟩ := HDs.out t htn
      have c1 := hcell wr hB
      have e1 := HOp.out j hlt
      rw [Ht.out] at e1
      rw [e1] at c1
      have c2 := hm.cell hlt
      have f2 := hm.frozen j
      have hset := hm.set (f' := fun i => if i < j + 1 then f i else 0) j (f j) (fun i hi => by
        show (if i = j then f j else if i < j then f i else 0) = if i < j + 1 then f i else 0
        by_cases e : i = j
        · rw [if_pos e, if_pos (by omega), e]
        · rw [if_neg e]
          by_cases h : i < j
          · rw [if_pos h, if_pos (by omega)]
          · rw [if_neg h, if_neg (by omega)])
      have hB4 := hB.setCell (p := ⟨w2.heap.size, j, none⟩) (Nat.le_refl _) (.int .i64 (f j : Int))
      obtain ⟨x, Hx⟩ : ∃ x : Nat, Hid (f j = x) := ⟨_, rfl⟩
      obtain ⟨y, Hy⟩ : ∃ y : Nat, Hid ((if j < j then f j else 0) = y) := ⟨_, rfl⟩
      rw [Hx.out] at c1 hset hB4
      rw [Hy.out] at c2
      clear hm hcell e1 Hy
      go_wp2
      go_roundw
      case rel => exact ⟨j + 1, by go_num, by omega, hset, hB4⟩
      case measure => simp [intOf]; omega
    · have hdj : decide ((j : Int) < (n : Int)) = false := by simp; omega
      obtain rfl : n = j := by omega
      have HF : Hid (OwnN wr w2.heap.size n f) := by
        obtain ⟨cur, h1, h2, h3⟩ := hm
        exact ⟨cur, h1, h2, fun i hi => (h3 i hi).trans (by simp only [if_pos hi])⟩
      have hws := hB2.size
      have hBB := Below.next hB2 hB
      clear hm
      go_wp2
      go_ret
      exact ⟨_, rfl, hws, HF.out, hBB⟩
theorem shu_take {q : Nat} {r : List Nat} {i : Nat} (h : i < r.length) : shu q (r.take (i + 1)) = shu q (r.take i) * q + r.getD i 0 := by
  have : r.take (i + 1) = r.take i ++ [r.getD i 0] := by
    rw [List.take_add_one, List.getElem?_eq_getElem h, Option.toList_some, List.getD_eq_getElem?_getD, List.getElem?_eq_getElem h]
    rfl
  rw [this, shu_snoc]
set_option maxRecDepth 100000 in
set_option maxHeartbeats 8000000 in
theorem Shut_any (P K n : Nat) (l : List Int) (r : List Nat) (v u : Value) (w : World) (hF : Fld P K l v w) (hu : Sl w u (r.map Int.ofNat)) (hr : Vc (P ^ K) n r) (hn : n ≤ 6) (hf : (P ^ K) ^ n ≤ 4096) (z : Nat) (hz : Hid (shu (P ^ K) r = z)) :
    Calls Tryd.prog 56 #[.agg #[.int .i64 (P : Int), .int .i64 (K : Int), v], u] w fun e w' => e = .returned (.int .i64 (z : Int)) ∧ Below w.heap.size w w' := by
  have hbx := balloc w (.cells #[.int .i64 (P : Int), .int .i64 (K : Int), v] 24)
  have HX := fl_box (P : Int) (K : Int) v w
  obtain ⟨q, Hq⟩ : ∃ q, Hid (P ^ K = q) := ⟨_, rfl⟩
  have CS := fun W => hF.size Hq W
  have hq64 : q ≤ 64 := by rw [← Hq.out]; exact hF.good.le64
  have hq1 : 1 < q := by rw [← Hq.out]; exact hF.fqr.one
  rw [Hq.out] at hr hz hf
  have hl : (r.map Int.ofNat).length = n := by rw [List.length_map, hr.len]
  have HS : Hid (∀ i, i < n → shu q (r.take (i + 1)) = shu q (r.take i) * q + r.getD i 0) := fun i hi => shu_take (by rw [hr.len]; exact hi)
  have HLt : Hid (∀ i, i ≤ n → shu q (r.take i) ≤ 4096) := fun i hi => by
    have h1 : Vc q i (r.take i) := ⟨by rw [List.length_take, hr.len]; omega, fun x hx => hr.lt x (List.mem_of_mem_take hx)⟩
    have h2 := shu_lt (show 0 < q by omega) i _ h1
    have h3 := Nat.pow_le_pow_right (show 0 < q by omega) hi
    omega
  have HE : Hid (shu q (r.take n) = z) := by show _ = _; rw [List.take_of_length_le (by rw [hr.len]; exact Nat.le_refl _)]; exact hz.out
  have HAt : Hid (∀ i, i < n → r.getD i 0 < q) := fun i _ => hr.at (by omega) i
  obtain ⟨fa, fn, fc, rfl⟩ : ∃ fa fn fc, v = .slice fa fn fc := by obtain ⟨a, c, e, _⟩ := hF.sl; exact ⟨a, _, c, e⟩
  obtain ⟨a, cap, rfl, hc⟩ := hu
  rw [hl] at hc ⊢
  have HU : Hid (∀ W, Below w.heap.size w W → ∀ j, j < n → ∃ b off, a = some ⟨b, off, none⟩ ∧ W.cell? ⟨b, off + j, none⟩ = some (.int .i64 ((r.getD j 0 : Nat) : Int))) := fun W bW j hj => by
    obtain ⟨b, off, e, h⟩ := hc j hj
    refine ⟨b, off, e, ?_⟩
    rw [(bW.cell (p := ⟨b, off + j, none⟩) (block_lt_of_cell h)), h]
    simp [List.getD_eq_getElem?_getD, show j < r.length by rw [hr.len]; exact hj]
  obtain ⟨x0, x1, x2⟩ := HX _ (Below.refl _ _)
  have H0 : Hid (shu q (r.take 0) = 0) := by show _ = _; simp [shu]
  obtain ⟨f, Hf⟩ : ∃ f : Nat → Nat, Hid (∀ i, shu q (r.take i) = f i) := ⟨fun i => shu q (r.take i), fun i => rfl⟩
  simp only [Hf.out] at HS HLt HE H0
  clear hF HX Hf hc hz
  go_enter Tryd.func56, Tryd.ntmps56
  go_wp2_with (go_at_call 8; refine (CS _).mono ?_; rintro e w1 ⟨rfl, b1⟩; clear CS)
  have hB1 := Below.next hbx b1
  go_loopw [6, 7] (fun cv iv wr => ∃ i y : Nat, iv = .int .i64 (i : Int) ∧ i ≤ n ∧ cv = .int .i64 (y : Int) ∧ Hid (f i = y) ∧ wr = w1) (fun _ iv _ => (n - intOf iv).toNat)
  case atStart => exact ⟨0, 0, rfl, by omega, rfl, H0, rfl⟩
  case round =>
    obtain ⟨i, y, rfl, hi, rfl, Hy, hw⟩ := hrel
    replace hw := hw.symm
    subst hw
    by_cases hlt : i < n
    · have hii : (i : Int) < (n : Int) := by omega
      have hdi : decide ((i : Int) < (n : Int)) = true := by simp; omega
      obtain ⟨b, off, rfl, hcj⟩ := HU.out w1 hB1 i hlt
      have hx := HAt.out i hlt
      have hs := HS.out i hlt
      have hyl := HLt.out i (by omega)
      rw [Hy.out] at hs hyl
      obtain ⟨x, Hx⟩ : ∃ x, Hid (r.getD i 0 = x) := ⟨_, rfl⟩
      rw [Hx.out] at hcj hx hs
      obtain ⟨t, Ht⟩ : ∃ t, Hid (y * q = t) := ⟨_, rfl⟩
      have hm : (y : Int) * (q : Int) = (t : Int) := by rw [← Ht.out]; simp
      have htl : t ≤ 4096 * 64 := by rw [← Ht.out]; exact Nat.mul_le_mul hyl hq64
      rw [Ht.out] at hs
      have HN : Hid (f (i + 1) = t + x) := hs
      clear hs
      go_wp2
      go_roundw
      case rel => exact ⟨i + 1, t + x, by go_num, by omega, by go_num, HN, by first | rfl | trivial⟩
      case measure => simp [intOf]; omega
    · have hdi : decide ((i : Int) < (n : Int)) = false := by simp; omega
      obtain rfl : n = i := by omega
      go_wp2
      go_ret
      exact ⟨ret_int (by rw [← Hy.out, HE.out]), hB1⟩
set_option maxRecDepth 100000 in
set_option maxHeartbeats 8000000 in
theorem added_any (P K n c : Nat) (l : List Int) (r : List Nat) (v u : Value) (w : World) (hF : Fld P K l v w) (hu : Sl w u (r.map Int.ofNat)) (hr : Vc (P ^ K) n r) (h1 : 1 ≤ n) (hn : n ≤ 6) (hf : (P ^ K) ^ n ≤ 4096) (hc : c < (P ^ K) ^ n) (z : Nat) (hz : Hid (shu (P ^ K) (adV (adF P K) n (opn (P ^ K) n c) r) = z)) :
    Calls Tryd.prog 26 #[.agg #[.int .i64 (P : Int), .int .i64 (K : Int), v], .int .i64 (n : Int), .int .i64 (c : Int), u] w fun e w' => e = .returned (.int .i64 (z : Int)) ∧ Below w.heap.size w w' := by
  have hfq := hF.fqr
  have hbx := balloc w (.cells #[.int .i64 (P : Int), .int .i64 (K : Int), v] 24)
  have HX := fl_box (P : Int) (K : Int) v w
  have CO := fun W (b : Below w.heap.size w W) => Open_any P K n c l v W (hF.below b) hn (by omega)
  have HSum : Hid (∀ W, Below w.heap.size w W → ∀ a b, a < P ^ K → b < P ^ K → ∀ s, Hid (adF P K a b = s) → Calls Tryd.prog 55 #[.agg #[.int .i64 (P : Int), .int .i64 (K : Int), v], .int .i64 (a : Int), .int .i64 (b : Int)] W fun e w' => e = .returned (.int .i64 (s : Int)) ∧ Below W.heap.size W w') := fun W b x y hx hy s hs => by
    have h := Fd.SumG P K x y l v W (hF.sl.below b) hF.good hx hy
    rw [show Fd.addQ P K x y = s from hs.out] at h
    exact h
  have HSh : Hid (∀ W (g : Nat), Below w.heap.size w W → OwnN W g n (fun i => adF P K ((opn (P ^ K) n c).getD i 0) (r.getD i 0)) → Calls Tryd.prog 56 #[.agg #[.int .i64 (P : Int), .int .i64 (K : Int), v], .slice (some ⟨g, 0, none⟩) n n] W fun e w' => e = .returned (.int .i64 (z : Int)) ∧ Below W.heap.size W w') := fun W g b ho => by
    have hs := (ho.orow (base := 0) (Nat.zero_le _) (by omega)).sl
    exact Shut_any P K n l _ v _ W (hF.below b) hs (ofF_vc fun i _ => hfq.ad_lt _ _ ((opn_vc hfq.pos n c).at hfq.pos i) (hr.at hfq.pos i)) hn hf z hz
  have HA1 : Hid (∀ i, (opn (P ^ K) n c).getD i 0 < P ^ K) := fun i => (opn_vc hfq.pos n c).at hfq.pos i
  have HA2 : Hid (∀ i, r.getD i 0 < P ^ K) := fun i => hr.at hfq.pos i
  obtain ⟨ad, Had⟩ : ∃ ad, Hid (adF P K = ad) := ⟨_, rfl⟩
  obtain ⟨q, Hq⟩ : ∃ q, Hid (P ^ K = q) := ⟨_, rfl⟩
  rw [Hq.out] at HSum HSh HA1 HA2 CO hr
  rw [Had.out] at HSum HSh
  obtain ⟨f, Hf⟩ : ∃ f : Nat → Nat, Hid (∀ i, (opn q n c).getD i 0 = f i) := ⟨fun i => (opn q n c).getD i 0, fun i => rfl⟩
  simp only [Hf.out] at HSh HA1 CO
  obtain ⟨fa, fn, fc, rfl⟩ : ∃ fa fn fc, v = .slice fa fn fc := by obtain ⟨a, c, e, _⟩ := hF.sl; exact ⟨a, _, c, e⟩
  have hl : (r.map Int.ofNat).length = n := by rw [List.length_map, hr.len]
  obtain ⟨ub, uo, uc, rfl, hub, huc⟩ := hu.form hl (by omega)
  have HU : Hid (∀ W, Below w.heap.size w W → ∀ j, j < n → W.cell? ⟨ub, uo + j, none⟩ = some (.int .i64 ((r.getD j 0 : Nat) : Int))) := fun W bW j hj => by
    rw [(bW.cell (p := ⟨ub, uo + j, none⟩) hub), huc j hj]
    simp [List.getD_eq_getElem?_getD, show j < r.length by rw [hr.len]; exact hj]
  obtain ⟨x0, x1, x2⟩ := HX _ (Below.refl _ _)
  obtain ⟨w0, Hw0⟩ : ∃ w0, Hid (w.alloc (.cells #[.int .i64 (P : Int), .int .i64 (K : Int), .slice fa fn fc] 24) = w0) := ⟨_, rfl⟩
  have HX2 : Hid (∀ W, Below w0.heap.size w0 W → (W.cell? ⟨w.heap.size, 0, none⟩ = some (.int .i64 (P : Int)) ∧ W.cell? ⟨w.heap.size, 1, none⟩ = some (.int .i64 (K : Int)) ∧ W.cell? ⟨w.heap.size, 2, none⟩ = some (.slice fa fn fc))) := by rw [← Hw0.out]; exact HX
  have HB0 : Hid (Below w.heap.size w w0) := by rw [← Hw0.out]; exact hbx
  have C1 := CO _ hbx
  rw [Hw0.out] at C1
  clear hF HX hfq CO huc hu hz Hf hbx
  go_enter Tryd.func26, Tryd.ntmps26
  go_wp2_with (go_at_call 12; rw [Hw0.out]; refine C1.mono ?_; rintro e w1 ⟨g, rfl, hg, ho, b1⟩; clear C1)
  have hg0 : w.heap.size ≤ g := by have := HB0.out.size; omega
  have hgx : w.heap.size + 1 ≤ g := by
    have h : w0.heap.size = w.heap.size + 1 := by rw [← Hw0.out]; simp
    omega
  clear x0 x1 x2
  go_loopw [10] (fun iv wr => ∃ i : Nat, iv = .int .i64 (i : Int) ∧ i ≤ n ∧ OwnN wr g n (fun j => if j < i then ad (f j) (r.getD j 0) else f j) ∧ Below w0.heap.size w0 wr) (fun iv _ => (n - intOf iv).toNat)
  case atStart => exact ⟨0, rfl, by omega, ho, b1⟩
  case round =>
    clear ho b1
    obtain ⟨i, rfl, hi, hm, hB⟩ := hrel
    have hBB := Below.next HB0.out hB
    by_cases hlt : i < n
    · have hii : (i : Int) < (n : Int) := by omega
      have hdi : decide ((i : Int) < (n : Int)) = true := by simp; omega
      have k1 := hm.cell hlt
      rw [if_neg (by omega)] at k1
      have k2 := HU.out wr hBB i hlt
      have l1 := HA1.out i
      have l2 := HA2.out i
      have hset := fun W (b : Below wr.heap.size wr W) => (hm.below b).set (f' := fun j => if j < i + 1 then ad (f j) (r.getD j 0) else f j) i (ad (f i) (r.getD i 0)) (fun j hj => by
        show (if j = i then ad (f i) (r.getD i 0) else if j < i then ad (f j) (r.getD j 0) else f j) = if j < i + 1 then ad (f j) (r.getD j 0) else f j
        by_cases e : j = i
        · rw [if_pos e, if_pos (by omega), e]
        · rw [if_neg e]
          by_cases h : j < i
          · rw [if_pos h, if_pos (by omega)]
          · rw [if_neg h, if_neg (by omega)])
      obtain ⟨x, Hx⟩ : ∃ x, Hid (f i = x) := ⟨_, rfl⟩
      obtain ⟨y, Hy⟩ : ∃ y, Hid (r.getD i 0 = y) := ⟨_, rfl⟩
      rw [Hx.out] at k1 l1 hset
      rw [Hy.out] at k2 l2 hset
      obtain ⟨s, Hs⟩ : ∃ s, Hid (ad x y = s) := ⟨_, rfl⟩
      rw [Hs.out] at hset
      have CA := fun W (hW : Below wr.heap.size wr W) => HSum.out W (Below.next hBB hW) x y l1 l2 s Hs
      have hS : Hid (∀ W, Below w0.heap.size w0 W → (W.cell? ⟨w.heap.size, 0, none⟩ = some (.int .i64 (P : Int)) ∧ W.cell? ⟨w.heap.size, 1, none⟩ = some (.int .i64 (K : Int)) ∧ W.cell? ⟨w.heap.size, 2, none⟩ = some (.slice fa fn fc) ∧ W.cell? ⟨ub, uo + i, none⟩ = some (.int .i64 (y : Int)))) := fun W hW => by
        obtain ⟨y0, y1, y2⟩ := HX2.out W hW
        have h := HU.out W (Below.next HB0.out hW) i hlt
        rw [Hy.out] at h
        exact ⟨y0, y1, y2, h⟩
      have HNext : Hid (∀ W, Below wr.heap.size wr W → W.cell? ⟨g, i, none⟩ = some (.int .i64 (x : Int)) ∧ W.frozen? ⟨g, i, none⟩ = false ∧ OwnN (W.setCell ⟨g, i, none⟩ (.int .i64 (s : Int))) g n (fun j => if j < i + 1 then ad (f j) (r.getD j 0) else f j) ∧ Below w0.heap.size w0 (W.setCell ⟨g, i, none⟩ (.int .i64 (s : Int)))) := fun W b =>
        ⟨(b.cell (World.block_lt_of_cell? _ _ k1)).trans k1, (hm.below b).frozen i, hset W b, (Below.next hB b).setCell (p := ⟨g, i, none⟩) (by have h : w0.heap.size = w.heap.size + 1 := (by rw [← Hw0.out]; simp); omega) _⟩
      have p1 : Below wr.heap.size wr wr := Below.refl _ _
      have HB1 : Hid (∀ W, Below wr.heap.size wr W → Below w0.heap.size w0 W) := fun W hW => Below.next hB hW
      clear hm hset k1 k2 hB hBB
      go_wp2
      refine wp_region_noPanic ?_
      refine wp_region_held_drew (S := fun W => W.cell? ⟨w.heap.size, 0, none⟩ = some (.int .i64 (P : Int)) ∧ W.cell? ⟨w.heap.size, 1, none⟩ = some (.int .i64 (K : Int)) ∧ W.cell? ⟨w.heap.size, 2, none⟩ = some (.slice fa fn fc) ∧ W.cell? ⟨ub, uo + i, none⟩ = some (.int .i64 (y : Int))) (by kernel_rfl) (hS.out _ (HB1.out _ p1.drew)) (fun hSx => ?_)
      refine wpAnyH_take (i := 0) (v := .slice (some ⟨g, 0, none⟩) n n) rfl (by kernel_rfl) (by kernel_rfl) (by kernel_rfl) (fun _ _ _ h => h) (Or.inl ⟨by rfl, fun w' hSw => by (try dsimp only at hSw); obtain ⟨hs0, hs1, hs2, hs3⟩ := hSw; go_simp⟩) hSx ?_
      try simp only [Act.put, List.setIfInBounds_toArray]
      refine wpAnyH_take (i := 1) (v := .int .i64 (i : Int)) rfl (by kernel_rfl) (by kernel_rfl) (by kernel_rfl) (fun _ _ _ h => h) (Or.inl ⟨by rfl, fun w' hSw => by (try dsimp only at hSw); obtain ⟨hs0, hs1, hs2, hs3⟩ := hSw; go_simp⟩) hSx ?_
      try simp only [Act.put]
      refine wpAnyH_take (i := 2) (v := .agg #[.int .i64 (P : Int), .int .i64 (K : Int), .slice fa fn fc]) rfl (by kernel_rfl) (by kernel_rfl) (by kernel_rfl) (fun _ _ _ h => h) (Or.inl ⟨by rfl, fun w' hSw => by (try dsimp only at hSw); obtain ⟨hs0, hs1, hs2, hs3⟩ := hSw; go_simp⟩) hSx ?_
      try simp only [Act.put]
      refine wpAnyH_take (i := 3) (v := .slice (some ⟨g, 0, none⟩) n n) rfl (by kernel_rfl) (by kernel_rfl) (by kernel_rfl) (fun _ _ _ h => h) (Or.inl ⟨by rfl, fun w' hSw => by (try dsimp only at hSw); obtain ⟨hs0, hs1, hs2, hs3⟩ := hSw; go_simp⟩) hSx ?_
      try simp only [Act.put]
      refine wpAnyH_take (i := 4) (v := .int .i64 (i : Int)) rfl (by kernel_rfl) (by kernel_rfl) (by kernel_rfl) (fun _ _ _ h => h) (Or.inl ⟨by rfl, fun w' hSw => by (try dsimp only at hSw); obtain ⟨hs0, hs1, hs2, hs3⟩ := hSw; go_simp⟩) hSx ?_
      try simp only [Act.put]
      refine wpAnyH_take (i := 5) (v := .pointer (some ⟨g, i, none⟩)) rfl (by kernel_rfl) (by kernel_rfl) (by kernel_rfl) (fun _ _ _ h => h) (Or.inl ⟨by rfl, fun w' hSw => by (try dsimp only at hSw); obtain ⟨hs0, hs1, hs2, hs3⟩ := hSw; go_simp⟩) hSx ?_
      try simp only [Act.put]
      refine wpAnyH_take (i := 7) (v := .slice (some ⟨ub, uo, none⟩) n uc) rfl (by kernel_rfl) (by kernel_rfl) (by kernel_rfl) (fun _ _ _ h => h) (Or.inl ⟨by rfl, fun w' hSw => by (try dsimp only at hSw); obtain ⟨hs0, hs1, hs2, hs3⟩ := hSw; go_simp⟩) hSx ?_
      try simp only [Act.put]
      refine wpAnyH_take (i := 8) (v := .int .i64 (i : Int)) rfl (by kernel_rfl) (by kernel_rfl) (by kernel_rfl) (fun _ _ _ h => h) (Or.inl ⟨by rfl, fun w' hSw => by (try dsimp only at hSw); obtain ⟨hs0, hs1, hs2, hs3⟩ := hSw; go_simp⟩) hSx ?_
      try simp only [Act.put]
      refine wpAnyH_take (i := 9) (v := .pointer (some ⟨ub, uo + i, none⟩)) rfl (by kernel_rfl) (by kernel_rfl) (by kernel_rfl) (fun _ _ _ h => h) (Or.inl ⟨by rfl, fun w' hSw => by (try dsimp only at hSw); obtain ⟨hs0, hs1, hs2, hs3⟩ := hSw; go_simp⟩) hSx ?_
      try simp only [Act.put]
      refine wpAnyH_take (i := 10) (v := .int .i64 (y : Int)) rfl (by kernel_rfl) (by kernel_rfl) (by kernel_rfl) (fun _ _ _ h => h) (Or.inl ⟨by rfl, fun w' hSw => by (try dsimp only at hSw); obtain ⟨hs0, hs1, hs2, hs3⟩ := hSw; go_simp⟩) hSx ?_
      try simp only [Act.put]
      have m1 := (HNext.out _ p1.drew).1
      refine wpAnyH_ready (rs := [6]) (by kernel_rfl) (by simp) ?_
      refine (AllReadyH.cons rfl (fun J hJ => ?_) AllReadyH.nil)
      go_simp
      refine hJ.out _ _ (hS.out _ (HB1.out _ p1.drew)) (fun hSx => ?_)
      clear hJ J
      try simp only [Act.put, List.setIfInBounds_toArray, List.set_cons_zero, List.set_cons_succ]
      refine wpAnyH_ready (rs := [11]) (by kernel_rfl) (by simp) ?_
      refine (AllReadyH.cons rfl (fun J hJ => ?_) AllReadyH.nil)
      go_simp
      refine (CA _ p1.drew).mono ?_
      rintro e w3 ⟨rfl, bv1⟩
      have p2 : Below wr.heap.size wr w3 := Below.next p1.drew bv1
      go_wp2_with fail
      refine hJ.out _ _ (hS.out _ (HB1.out _ p2)) (fun hSx => ?_)
      clear hJ J
      try simp only [Act.put, List.setIfInBounds_toArray, List.set_cons_zero, List.set_cons_succ]
      refine wpAnyH_take (i := 12) (v := .pointer (some ⟨g, i, none⟩)) rfl (by kernel_rfl) (by kernel_rfl) (by kernel_rfl) (fun _ _ _ h => h) (Or.inl ⟨by rfl, fun w' hSw => by (try dsimp only at hSw); obtain ⟨hs0, hs1, hs2, hs3⟩ := hSw; go_simp⟩) hSx ?_
      try simp only [Act.put, List.setIfInBounds_toArray]
      obtain ⟨n1, n2, n3, n4⟩ := HNext.out _ p2
      refine wpAnyH_ready (rs := [13]) (by kernel_rfl) (by simp) ?_
      refine (AllReadyH.cons rfl (fun J hJ => ?_) AllReadyH.nil)
      go_simp
      refine hJ.out _ _ (hS.out _ n4) (fun hSx => ?_)
      clear hJ J
      try simp only [Act.put, List.setIfInBounds_toArray, List.set_cons_zero, List.set_cons_succ]
      refine wpAnyH_done (by kernel_rfl) ?_ _
      refine NoPanic.normal ?_
      clear hSx hS CA
      go_wp2
      go_roundw
      case rel => exact ⟨i + 1, by go_num, by omega, n3, n4⟩
      case measure => simp [intOf]; omega
    · have hdi : decide ((i : Int) < (n : Int)) = false := by simp; omega
      obtain rfl : n = i := by omega
      have HF : Hid (OwnN wr g n (fun j => ad (f j) (r.getD j 0))) := by
        obtain ⟨cur, h1, h2, h3⟩ := hm
        exact ⟨cur, h1, h2, fun i hi => (h3 i hi).trans (by simp only [if_pos hi])⟩
      have C2 := HSh.out wr g hBB HF.out
      obtain ⟨y0, y1, y2⟩ := HX2.out wr hB
      clear hm
      go_wp2_with (go_at_call 56; refine C2.mono ?_; rintro e w3 ⟨rfl, b3⟩; clear C2)
      go_ret
      exact ⟨rfl, Below.next hBB b3⟩
end Go.Proofs.YtjfjdidibglhaabDoor

/- Rows of truths of one's own, and what the document's Span keeps. -/
namespace Go.Proofs.YtjfjdidibglhaabDoor
open Go.RowKit

theorem und33 : Tryd.prog.underlying 33 = some (.slice 4) := by kernel_rfl
theorem info4 : ∃ i, Tryd.prog.info? 4 = some i ∧ i.zero = some (.bool false) ∧ i.size = 1 ∧ i.bytes = 1 := by
  have h1 : (Tryd.prog.info? 4).map (·.zero) = some (some (.bool false)) := by kernel_rfl
  have h2 : (Tryd.prog.info? 4).map (·.size) = some 1 := by kernel_rfl
  have h3 : (Tryd.prog.info? 4).map (·.bytes) = some 1 := by kernel_rfl
  cases h : Tryd.prog.info? 4 with
  | none => rw [h] at h1; cases h1
  | some i =>
    rw [h] at h1 h2 h3
    exact ⟨i, rfl, Option.some.inj h1, Option.some.inj h2, Option.some.inj h3⟩
/-- A row of truths of one's own, whole. -/
def OwnB (w : World) (g n : Nat) (f : Nat → Bool) : Prop := ∃ cur, w.heap[g]? = some (.cells cur 4 (0, 0)) ∧ cur.size = n ∧ ∀ j, j < n → cur[j]? = some (.bool (f j))
theorem OwnB.lt {w : World} {g n : Nat} {f : Nat → Bool} (h : OwnB w g n f) : g < w.heap.size := by obtain ⟨c, h, _⟩ := h; exact (Array.getElem?_eq_some_iff.1 h).1
theorem OwnB.keep {w w' : World} {g n : Nat} {f : Nat → Bool} (h : OwnB w g n f) (k : w'.heap[g]? = w.heap[g]?) : OwnB w' g n f := by
  obtain ⟨c, h, e⟩ := h
  exact ⟨c, k.trans h, e⟩
theorem OwnB.below {w w' : World} {g n : Nat} {f : Nat → Bool} (h : OwnB w g n f) (b : Below w.heap.size w w') : OwnB w' g n f := h.keep (b.block g h.lt)
theorem OwnB.cell {w : World} {g n : Nat} {f : Nat → Bool} (h : OwnB w g n f) {j : Nat} (hj : j < n) : w.cell? ⟨g, j, none⟩ = some (.bool (f j)) := by
  obtain ⟨c, h, _, e⟩ := h
  rw [cell_of_row w g j _ _ _ h, e j hj]
theorem OwnB.frozen {w : World} {g n : Nat} {f : Nat → Bool} (h : OwnB w g n f) (j : Nat) : w.frozen? ⟨g, j, none⟩ = false := by
  obtain ⟨c, h, _⟩ := h
  exact frozen_of_row w g j _ _ h
theorem OwnB.set {w : World} {g n : Nat} {f f' : Nat → Bool} (h : OwnB w g n f) (i : Nat) (v : Bool) (e : ∀ j, j < n → (if j = i then v else f j) = f' j) : OwnB (w.setCell ⟨g, i, none⟩ (.bool v)) g n f' := by
  obtain ⟨c, h, hs, hc⟩ := h
  refine ⟨_, heap_setCell_same w g i _ _ _ h, by simpa using hs, fun j hj => ?_⟩
  rw [Array.getElem?_setIfInBounds, ← e j hj]
  by_cases e1 : i = j
  · subst e1; rw [if_pos rfl, if_pos (by omega), if_pos rfl]
  · rw [if_neg e1, if_neg (fun h => e1 h.symm), hc j hj]
theorem own_newB (w : World) (n : Nat) : OwnB (w.alloc (.cells (madeCells #[.bool false] n) 4)) w.heap.size n (fun _ => false) := by
  refine ⟨_, heap_alloc_new w _, by rw [size_madeCells], fun j hj => ?_⟩
  have hs : j < (madeCells #[Value.bool false] n).size := by rw [size_madeCells]; exact hj
  rw [Array.getElem?_eq_getElem hs]
  simp [madeCells, Nat.mod_one]
theorem run_makeB (n : Nat) (hn : n ≤ 100000) (w : World) : (Instr.makeSlice 33 (.int .i64 (n : Int)) (.int .i64 (n : Int))).run Tryd.prog w = .ok (.slice (some ⟨w.heap.size, 0, none⟩) n n) (w.alloc (.cells (madeCells #[.bool false] n) 4)) := by
  obtain ⟨i4, hi, hz0, hz1, hz2⟩ := info4
  have h := run_make (P := Tryd.prog) w 33 4 i4 (.bool false) und33 hi hz0 .i64 .i64 n n (by omega) (by omega) (by rw [hz2]; omega) (by omega)
  simpa [hz1, Value.cells] using h
/-- A row of truths that is read. -/
def RdB (w : World) (v : Value) (n : Nat) (f : Nat → Bool) : Prop := ∃ b off cap, v = .slice (some ⟨b, off, none⟩) n cap ∧ ∀ j, j < n → w.cell? ⟨b, off + j, none⟩ = some (.bool (f j))
theorem RdB.below {w w' : World} {v : Value} {n : Nat} {f : Nat → Bool} (h : RdB w v n f) (k : Below w.heap.size w w') : RdB w' v n f := by
  obtain ⟨b, off, cap, e, h⟩ := h
  exact ⟨b, off, cap, e, fun j hj => (k.cell (p := ⟨b, off + j, none⟩) (block_lt_of_cell (h j hj))).trans (h j hj)⟩
theorem OwnB.rd {w : World} {g n : Nat} {f : Nat → Bool} (h : OwnB w g n f) : RdB w (.slice (some ⟨g, 0, none⟩) n n) n f := ⟨g, 0, n, rfl, fun j hj => by rw [Nat.zero_add]; exact h.cell hj⟩

section
variable {q n : Nat} {ad mu : Nat → Nat → Nat} {ng : Nat → Nat}
/-- Numbers of lists that are in T, none twice, and marked. -/
structure SpK (q n : Nat) (T : List Nat → Prop) (L : List Nat) (V : Nat → Bool) : Prop where
  lt : ∀ c ∈ L, c < q ^ n
  is : ∀ c ∈ L, T (opn q n c)
  nd : L.Nodup
  mrk : ∀ c, c < q ^ n → (V c = true ↔ c ∈ L)
theorem SpK.mono {T T' : List Nat → Prop} {L : List Nat} {V : Nat → Bool} (h : SpK q n T L V) (k : ∀ v, T v → T' v) : SpK q n T' L V := ⟨h.lt, fun c hc => k _ (h.is c hc), h.nd, h.mrk⟩
theorem SpK.add {T : List Nat → Prop} {L : List Nat} {V : Nat → Bool} (h : SpK q n T L V) {c : Nat} (hc : c < q ^ n) (hT : T (opn q n c)) (hV : V c = false) : SpK q n T (L ++ [c]) (fun i => if i = c then true else V i) := by
  have hn : c ∉ L := fun k => by rw [(h.mrk c hc).2 k] at hV; cases hV
  refine ⟨fun a ha => ?_, fun a ha => ?_, ?_, fun a ha => ?_⟩
  · rcases List.mem_append.1 ha with e | e
    · exact h.lt a e
    · rw [List.mem_singleton.1 e]; exact hc
  · rcases List.mem_append.1 ha with e | e
    · exact h.is a e
    · rw [List.mem_singleton.1 e]; exact hT
  · refine List.nodup_append.2 ⟨h.nd, by simp, fun a ha b hb => ?_⟩
    rw [List.mem_singleton.1 hb]
    intro e
    rw [e] at ha
    exact hn ha
  · show (if a = c then true else V a) = true ↔ _
    by_cases e : a = c
    · rw [if_pos e, e]; simp
    · rw [if_neg e, h.mrk a ha]; simp [e]
theorem SpK.len {T : List Nat → Prop} {L : List Nat} {V : Nat → Bool} (h : SpK q n T L V) : L.length ≤ q ^ n := by
  have := h.nd.length_le_of_subset (l₂ := List.range (q ^ n)) fun c hc => List.mem_range.2 (h.lt c hc)
  rwa [List.length_range] at this
/-- The next number: that of the row a and x times r. -/
def nxC (q n : Nat) (ad mu : Nat → Nat → Nat) (r : List Nat) (x a : Nat) : Nat := shu q (adV ad n (opn q n a) (smV mu n x r))
theorem nxC_lt (h : FqR q ad mu ng) {r : List Nat} (hr : Vc q n r) {x : Nat} (hx : x < q) (a : Nat) : nxC q n ad mu r x a < q ^ n := shu_lt h.pos n _ (adV_vc h (opn_vc h.pos n a) (smV_vc h hx hr))
theorem nxC_opn (h : FqR q ad mu ng) {r : List Nat} (hr : Vc q n r) {x : Nat} (hx : x < q) (a : Nat) : opn q n (nxC q n ad mu r x a) = adV ad n (opn q n a) (smV mu n x r) := opn_shu h.pos n _ (adV_vc h (opn_vc h.pos n a) (smV_vc h hx hr))
theorem nxC_zero (h : FqR q ad mu ng) {r : List Nat} (hr : Vc q n r) {a : Nat} (ha : a < q ^ n) : nxC q n ad mu r 0 a = a := by
  unfold nxC
  rw [smV_zero h hr, adV_zero h (opn_vc h.pos n a), shu_opn n a ha]
theorem nxC_in (h : FqR q ad mu ng) {R : List (List Nat)} {r : List Nat} (hR : Rws q n R) (hr : Vc q n r) {x a : Nat} (hx : x < q) (ha : Spn q ad mu n R (opn q n a)) : Spn q ad mu n (R ++ [r]) (opn q n (nxC q n ad mu r x a)) := by
  rw [nxC_opn h hr hx, spn_snoc h hR hr]
  exact ⟨_, x, ha, hx, rfl⟩
theorem opn_null (q n : Nat) : opn q n 0 = zV n := by
  have h : ∀ n, opn q n 0 = List.replicate n 0 := by
    intro n
    induction n with
    | zero => rfl
    | succ n ih => rw [opn, Nat.zero_div, Nat.zero_mod, ih, List.replicate_succ']
  rw [h]
  refine List.ext_getElem? fun i => ?_
  simp [zV, ofF, List.getElem?_replicate]
  by_cases e : i < n
  · simp [e]
  · simp [e]
theorem spk_start (h : FqR q ad mu ng) (n : Nat) : SpK q n (Spn q ad mu n []) [0] (fun i => if i = 0 then true else false) := by
  have hp : 0 < q ^ n := Nat.pow_pos h.pos
  refine ⟨fun c hc => by rw [List.mem_singleton.1 hc]; exact hp, fun c hc => ?_, by simp, fun c _ => ?_⟩
  · rw [List.mem_singleton.1 hc, opn_null q n]; exact .zero
  · show (if c = 0 then true else false) = true ↔ _
    by_cases e : c = 0 <;> simp [e]
theorem spn_none {v : List Nat} (k : Spn q ad mu n [] v) : v = zV n := by
  cases k with
  | zero => rfl
  | step _ hr _ => cases hr
theorem full_start (h : FqR q ad mu ng) {c : Nat} (hc : c < q ^ n) (k : Spn q ad mu n [] (opn q n c)) : c ∈ [0] := by
  have e := spn_none k
  have e2 := shu_opn n c hc
  rw [e, ← opn_null q n, shu_opn n 0 (Nat.pow_pos h.pos)] at e2
  rw [← e2]; simp
theorem full_next (h : FqR q ad mu ng) {R : List (List Nat)} {r : List Nat} (hR : Rws q n R) (hr : Vc q n r) {L0 L : List Nat} (hf : ∀ c, c < q ^ n → Spn q ad mu n R (opn q n c) → c ∈ L0) (hd : ∀ x, x < q → ∀ a ∈ L0, nxC q n ad mu r x a ∈ L) {c : Nat} (hc : c < q ^ n)
    (k : Spn q ad mu n (R ++ [r]) (opn q n c)) : c ∈ L := by
  obtain ⟨u, x, hu, hx, e⟩ := (spn_snoc h hR hr _).1 k
  have huv := hu.vc h hR
  have ha := hf (shu q u) (shu_lt h.pos n u huv) (by rw [opn_shu h.pos n u huv]; exact hu)
  have := hd x hx _ ha
  unfold nxC at this
  rw [opn_shu h.pos n u huv, ← e, shu_opn n c hc] at this
  exact this
/-- Span's state: ahead of a row; amid one. -/
def OutS (q n : Nat) (ad mu : Nat → Nat → Nat) (S : List (List Nat)) (i : Nat) (L : List Nat) (V : Nat → Bool) : Prop := SpK q n (Spn q ad mu n (S.take i)) L V ∧ ∀ c, c < q ^ n → Spn q ad mu n (S.take i) (opn q n c) → c ∈ L
structure MidS (q n : Nat) (ad mu : Nat → Nat → Nat) (S : List (List Nat)) (i : Nat) (r : List Nat) (L0 : List Nat) (x j : Nat) (L : List Nat) (V : Nat → Bool) : Prop where
  k : SpK q n (Spn q ad mu n (S.take (i + 1))) L V
  pre : ∃ M, L = L0 ++ M
  old : ∀ a ∈ L0, a < q ^ n ∧ Spn q ad mu n (S.take i) (opn q n a)
  full : ∀ c, c < q ^ n → Spn q ad mu n (S.take i) (opn q n c) → c ∈ L0
  don : ∀ y, y < x → ∀ a ∈ L0, nxC q n ad mu r y a ∈ L
  cur : ∀ h, h < j → nxC q n ad mu r x (L0.getD h 0) ∈ L
theorem take_snoc {S : List (List Nat)} {i : Nat} {r : List Nat} (hr : S[i]? = some r) : S.take (i + 1) = S.take i ++ [r] := by rw [List.take_add_one, hr, Option.toList_some]
theorem rws_take {S : List (List Nat)} (h : Rws q n S) (i : Nat) : Rws q n (S.take i) := fun r hr => h r (List.mem_of_mem_take hr)
theorem outS_start (h : FqR q ad mu ng) (S : List (List Nat)) : OutS q n ad mu S 0 [0] (fun i => if i = 0 then true else false) := ⟨spk_start h n, fun _ hc k => full_start h hc k⟩
theorem OutS.mid (h : FqR q ad mu ng) {S : List (List Nat)} {i : Nat} {L : List Nat} {V : Nat → Bool} (k : OutS q n ad mu S i L V) {r : List Nat} (hr : S[i]? = some r) (hv : Vc q n r) : MidS q n ad mu S i r L 1 0 L V where
  k := k.1.mono fun v hv => by rw [take_snoc hr]; exact hv.mono fun s hs => by simp [hs]
  pre := ⟨[], by simp⟩
  old := fun a ha => ⟨k.1.lt a ha, k.1.is a ha⟩
  full := k.2
  don := fun y hy a ha => by
    obtain rfl : y = 0 := by omega
    rw [nxC_zero h hv (k.1.lt a ha)]; exact ha
  cur := fun _ h => by omega
theorem MidS.row {S : List (List Nat)} {i : Nat} {r L0 : List Nat} {x j : Nat} {L : List Nat} {V : Nat → Bool} (k : MidS q n ad mu S i r L0 x j L V) (hj : j = L0.length) : MidS q n ad mu S i r L0 (x + 1) 0 L V where
  k := k.k
  pre := k.pre
  old := k.old
  full := k.full
  don := fun y hy a ha => by
    by_cases e : y = x
    · subst e
      obtain ⟨h, hh, rfl⟩ := List.getElem_of_mem ha
      have := k.cur h (by omega)
      rwa [List.getD_eq_getElem?_getD, List.getElem?_eq_getElem hh, Option.getD_some] at this
    · exact k.don y (by omega) a ha
  cur := fun _ h => by omega
theorem MidS.done (h : FqR q ad mu ng) {S : List (List Nat)} (hS : Rws q n S) {i : Nat} {r L0 : List Nat} {j : Nat} {L : List Nat} {V : Nat → Bool} (k : MidS q n ad mu S i r L0 q j L V) (hr : S[i]? = some r) (hv : Vc q n r) : OutS q n ad mu S (i + 1) L V :=
  ⟨k.k, fun c hc hs => by
    rw [take_snoc hr] at hs
    exact full_next h (rws_take hS i) hv k.full k.don hc hs⟩
theorem MidS.at {S : List (List Nat)} {i : Nat} {r L0 : List Nat} {x j : Nat} {L : List Nat} {V : Nat → Bool} (k : MidS q n ad mu S i r L0 x j L V) {h : Nat} (hh : h < L0.length) : L.getD h 0 = L0.getD h 0 ∧ L0.getD h 0 < q ^ n ∧ h < L.length := by
  obtain ⟨M, e⟩ := k.pre
  refine ⟨by rw [e]; simp [List.getD_eq_getElem?_getD, List.getElem?_append_left hh], ?_, by rw [e, List.length_append]; omega⟩
  rw [List.getD_eq_getElem?_getD, List.getElem?_eq_getElem hh, Option.getD_some]
  exact (k.old _ (List.getElem_mem hh)).1
theorem MidS.yes {S : List (List Nat)} {i : Nat} {r L0 : List Nat} {x j : Nat} {L : List Nat} {V : Nat → Bool} (k : MidS q n ad mu S i r L0 x j L V) {z : Nat} (hz : nxC q n ad mu r x (L0.getD j 0) = z) (hl : z < q ^ n) (hV : V z = true) : MidS q n ad mu S i r L0 x (j + 1) L V where
  k := k.k
  pre := k.pre
  old := k.old
  full := k.full
  don := k.don
  cur := fun h hh => by
    by_cases e : h = j
    · subst e; rw [hz]; exact (k.k.mrk z hl).1 hV
    · exact k.cur h (by omega)
theorem MidS.no (h : FqR q ad mu ng) {S : List (List Nat)} (hS : Rws q n S) {i : Nat} {r L0 : List Nat} {x j : Nat} {L : List Nat} {V : Nat → Bool} (k : MidS q n ad mu S i r L0 x j L V) (hr : S[i]? = some r) (hv : Vc q n r) (hx : x < q) (hj : j < L0.length) {z : Nat} (hz : nxC q n ad mu r x (L0.getD j 0) = z) (hV : V z = false) :
    MidS q n ad mu S i r L0 x (j + 1) (L ++ [z]) (fun i => if i = z then true else V i) where
  k := by
    refine k.k.add (by rw [← hz]; exact nxC_lt h hv hx _) ?_ hV
    rw [take_snoc hr, ← hz]
    refine nxC_in h (rws_take hS i) hv hx ?_
    rw [List.getD_eq_getElem?_getD, List.getElem?_eq_getElem hj, Option.getD_some]
    exact (k.old _ (List.getElem_mem hj)).2
  pre := by
    obtain ⟨M, e⟩ := k.pre
    exact ⟨M ++ [z], by rw [e, List.append_assoc]⟩
  old := k.old
  full := k.full
  don := fun y hy a ha => List.mem_append.2 (.inl (k.don y hy a ha))
  cur := fun h hh => by
    by_cases e : h = j
    · subst e; rw [hz]; simp
    · exact List.mem_append.2 (.inl (k.cur h (by omega)))
end
theorem addr_add0 (g j : Nat) : (⟨g, 0, none⟩ : Addr).add j = ⟨g, j, none⟩ := by unfold Addr.add; split <;> simp_all
/-- Span's memory: the marks and the list. -/
structure SpW (w0 wr : World) (G A lg lm lc : Nat) (L : List Nat) (V : Nat → Bool) : Prop where
  own : OwnB wr G A V
  row : wr.ownsRow (G + 1) 3 1 (.slice (some ⟨lg, 0, none⟩) lm lc) lm ((L.map Int.ofNat).map (Value.int .i64))
  b : Below w0.heap.size w0 wr
  g0 : w0.heap.size ≤ G
theorem SpW.lt {w0 wr : World} {G A lg lm lc : Nat} {L : List Nat} {V : Nat → Bool} (h : SpW w0 wr G A lg lm lc L V) : G + 1 ≤ lg ∧ lg < wr.heap.size := h.row.lt lg rfl
theorem SpW.len {w0 wr : World} {G A lg lm lc : Nat} {L : List Nat} {V : Nat → Bool} (h : SpW w0 wr G A lg lm lc L V) : L.length = lm := by have := h.row.1; simpa using this
theorem SpW.cell {w0 wr : World} {G A lg lm lc : Nat} {L : List Nat} {V : Nat → Bool} (h : SpW w0 wr G A lg lm lc L V) {j : Nat} (hj : j < lm) : wr.cell? ⟨lg, j, none⟩ = some (.int .i64 (L.getD j 0 : Int)) := by
  have hl := h.len
  have := h.row.cells (g := lg) rfl j (.int .i64 (L.getD j 0 : Int)) (by simp [List.getD_eq_getElem?_getD, show j < L.length by omega])
  rw [addr_add0] at this
  exact this
theorem SpW.below {w0 wr W : World} {G A lg lm lc : Nat} {L : List Nat} {V : Nat → Bool} (h : SpW w0 wr G A lg lm lc L V) (b : Below wr.heap.size wr W) : SpW w0 W G A lg lm lc L V :=
  ⟨h.own.below b, own_keep h.row fun k _ hk => b.block k hk, Below.next h.b b, h.g0⟩
theorem SpW.mark {w0 wr : World} {G A lg lm lc : Nat} {L : List Nat} {V : Nat → Bool} (h : SpW w0 wr G A lg lm lc L V) (z : Nat) : SpW w0 (wr.setCell ⟨G, z, none⟩ (.bool true)) G A lg lm lc L (fun i => if i = z then true else V i) :=
  ⟨h.own.set z true (fun _ _ => rfl), ownsRow_other h.row _ _ (Nat.lt_succ_self G), h.b.setCell (p := ⟨G, z, none⟩) h.g0 _, h.g0⟩
theorem SpW.grow {w0 wr w4 : World} {G A lg lm lc lg' lm' lc' : Nat} {L : List Nat} {V : Nat → Bool} {z : Nat} (h : SpW w0 wr G A lg lm lc L V) (hg : (wr.alloc (.cells #[.int .i64 (z : Int)] 3)).grownBy w4 (some lg))
    (ho : w4.ownsRow (G + 1) 3 1 (.slice (some ⟨lg', 0, none⟩) lm' lc') lm' (((L.map Int.ofNat).map (Value.int .i64)) ++ [.int .i64 (z : Int)])) : SpW w0 w4 G A lg' lm' lc' (L ++ [z]) V := by
  have hl := h.lt
  have hG := h.own.lt
  have hb0 := h.b.size
  refine ⟨?_, by simpa using ho, (h.b.alloc hb0 _).grown hg (by simp; omega) (fun k e => by cases e; have := h.g0; omega), h.g0⟩
  refine (h.own.below (balloc wr _)).keep (hg.block G (by simp; omega) ?_)
  intro e
  have : G = lg := by simpa using e
  omega
/-- A row that is read while others grow. -/
def VR (w : World) (vg n : Nat) (f : Nat → Nat) : Prop := vg < w.heap.size ∧ ∀ k, k < n → w.cell? ⟨vg, k, none⟩ = some (.int .i64 (f k : Int))
theorem VR.keep {w w' : World} {vg n : Nat} {f : Nat → Nat} (h : VR w vg n f) (hs : w.heap.size ≤ w'.heap.size) (k : w'.heap[vg]? = w.heap[vg]?) : VR w' vg n f := ⟨Nat.lt_of_lt_of_le h.1 hs, fun j hj => (World.cell?_of_block (a := ⟨vg, j, none⟩) k).trans (h.2 j hj)⟩
theorem VR.below {w w' : World} {vg n : Nat} {f : Nat → Nat} (h : VR w vg n f) (b : Below w.heap.size w w') : VR w' vg n f := h.keep b.size (b.block vg h.1)
theorem VR.sl {w : World} {vg n : Nat} {f : Nat → Nat} (h : VR w vg n f) (cap : Nat) : Sl w (.slice (some ⟨vg, 0, none⟩) n cap) ((ofF n f).map Int.ofNat) := by
  refine ⟨some ⟨vg, 0, none⟩, cap, by simp [ofF], fun j hj => ⟨vg, 0, rfl, ?_⟩⟩
  have hj' : j < n := by simpa [ofF] using hj
  rw [Nat.zero_add, h.2 j hj']
  simp [ofF, hj']
theorem VR.of {w : World} {base n vg cap : Nat} {f : Nat → Nat} (h : w.ownsRow base 3 1 (.slice (some ⟨vg, 0, none⟩) n cap) n (((ofF n f).map Int.ofNat).map (Value.int .i64))) : VR w vg n f := by
  refine ⟨(h.lt vg rfl).2, fun k hk => ?_⟩
  have := h.cells (g := vg) rfl k (.int .i64 (f k : Int)) (by simp [ofF, hk])
  rw [addr_add0] at this
  exact this
theorem VR.setO {w : World} {vg n : Nat} {f : Nat → Nat} (h : VR w vg n f) (a : Addr) (v : Value) (hne : vg ≠ a.block) : VR (w.setCell a v) vg n f := h.keep (by simp) (heap_setCell_other w a vg v hne)
theorem ofF_snoc (k : Nat) (f : Nat → Nat) : ofF (k + 1) f = ofF k f ++ [f k] := by simp [ofF, List.range_succ]
end Go.Proofs.YtjfjdidibglhaabDoor

namespace Go.Proofs.YtjfjdidibglhaabDoor
open Go.RowKit

theorem rows_at {w : World} {u : Value} {S : List (List Nat)} {q n : Nat} (hu : Rw w u (toZ S)) (hS : Rws q n S) (h1 : 1 ≤ n) : ∃ ua uc, u = .slice ua S.length uc ∧ ∀ i, i < S.length → ∃ r b off rb ro rc, S[i]? = some r ∧ Vc q n r ∧ ua = some ⟨b, off, none⟩ ∧ ∀ W, Below w.heap.size w W → W.cell? ⟨b, off + i, none⟩ = some (.slice (some ⟨rb, ro, none⟩) n rc) ∧ ∀ k, k < n → W.cell? ⟨rb, ro + k, none⟩ = some (.int .i64 (r.getD k 0 : Int)) := by
  obtain ⟨ua, uc, rfl, h⟩ := hu
  refine ⟨ua, uc, by simp [toZ], fun i hi => ?_⟩
  have hm := hS _ (List.getElem_mem hi)
  obtain ⟨b, off, x, e, hc, hs⟩ := h i (S[i].map Int.ofNat) (by simp [toZ, hi])
  obtain ⟨rb, ro, rc, rfl, hrb, hrc⟩ := hs.form (by rw [List.length_map, hm.len]) h1
  refine ⟨S[i], b, off, rb, ro, rc, by simp, hm, e, fun W bW => ⟨(bW.cell (p := ⟨b, off + i, none⟩) (block_lt_of_cell hc)).trans hc, fun k hk => ?_⟩⟩
  rw [bW.cell (p := ⟨rb, ro + k, none⟩) hrb, hrc k hk]
  simp [List.getD_eq_getElem?_getD, show k < S[i].length by rw [hm.len]; exact hk]
theorem own_newT (w : World) (n : Nat) : OwnB (w.alloc (.cells ((madeCells #[.bool false] n).setIfInBounds 0 (.bool true)) 4)) w.heap.size n (fun i => if i = 0 then true else false) := by
  obtain ⟨c, h, hs, hc⟩ := own_newB w n
  refine ⟨_, heap_alloc_new w _, by rw [Array.size_setIfInBounds, size_madeCells], fun j hj => ?_⟩
  rw [heap_alloc_new] at h
  obtain rfl : madeCells #[.bool false] n = c := by simpa using h
  rw [Array.getElem?_setIfInBounds]
  by_cases e : 0 = j
  · subst e; rw [if_pos rfl, if_pos (by omega)]; rfl
  · rw [if_neg e, hc j hj]; simp only [if_neg (show ¬ j = 0 by omega)]
set_option maxRecDepth 100000 in
set_option maxHeartbeats 8000000 in
theorem Span_any (P K n : Nat) (l : List Int) (S : List (List Nat)) (v u : Value) (w : World) (hF : Fld P K l v w) (hu : Rw w u (toZ S)) (hS : Rws (P ^ K) n S) (h1 : 1 ≤ n) (hn : n ≤ 6) (hf : (P ^ K) ^ n ≤ 4096) (hm : S.length ≤ 99) :
    Calls Tryd.prog 11 #[.agg #[.int .i64 (P : Int), .int .i64 (K : Int), v], .int .i64 (n : Int), u] w fun e w' => ∃ g V, e = .returned (.slice (some ⟨g, 0, none⟩) ((P ^ K) ^ n) ((P ^ K) ^ n)) ∧ OwnB w' g ((P ^ K) ^ n) V ∧ (∀ c, c < (P ^ K) ^ n → (V c = true ↔ Spn (P ^ K) (adF P K) (muF P K l) n S (opn (P ^ K) n c))) ∧ Below w.heap.size w w' := by
  have hfq := hF.fqr
  have hbx := balloc w (.cells #[.int .i64 (P : Int), .int .i64 (K : Int), v] 24)
  have HX := fl_box (P : Int) (K : Int) v w
  obtain ⟨i3, hi3, hz0, hz1, hz2⟩ := info3
  have HI3 : Hid (Tryd.prog.info? 3 = some i3 ∧ i3.zero = some (.int .i64 0) ∧ i3.size = 1 ∧ i3.bytes = 8) := ⟨hi3, hz0, hz1, hz2⟩
  clear hi3 hz0 hz1 hz2
  have HTim : Hid (∀ W, Below w.heap.size w W → ∀ a b, a < P ^ K → b < P ^ K → ∀ s, Hid (muF P K l a b = s) → Calls Tryd.prog 25 #[.agg #[.int .i64 (P : Int), .int .i64 (K : Int), v], .int .i64 (a : Int), .int .i64 (b : Int)] W fun e w' => e = .returned (.int .i64 (s : Int)) ∧ Below W.heap.size W w') := fun W b x y hx hy s hs => by
    have h := Fd.TimesG P K x y l v W (hF.sl.below b) hF.good hx hy
    rw [show Fd.mulQ P K (Fd.monL l) x y = s from hs.out] at h
    exact h
  have HAdd : Hid (∀ W, Below w.heap.size w W → ∀ (r : List Nat) (vv : Value) (x a : Nat), Vc (P ^ K) n r → x < P ^ K → a < (P ^ K) ^ n → Sl W vv ((ofF n fun i => muF P K l x (r.getD i 0)).map Int.ofNat) → ∀ z, Hid (nxC (P ^ K) n (adF P K) (muF P K l) r x a = z) → Calls Tryd.prog 26 #[.agg #[.int .i64 (P : Int), .int .i64 (K : Int), v], .int .i64 (n : Int), .int .i64 (a : Int), vv] W fun e w' => e = .returned (.int .i64 (z : Int)) ∧ Below W.heap.size W w') := fun W b r vv x a hr hx ha hs z hz =>
    added_any P K n a l (smV (muF P K l) n x r) v vv W (hF.below b) hs (smV_vc hfq hx hr) h1 hn hf ha z hz
  obtain ⟨ad, Had⟩ : ∃ ad, Hid (adF P K = ad) := ⟨_, rfl⟩
  obtain ⟨mu, Hmu⟩ : ∃ mu, Hid (muF P K l = mu) := ⟨_, rfl⟩
  rw [Had.out, Hmu.out] at hfq HAdd ⊢
  rw [Hmu.out] at HTim
  obtain ⟨q, Hq⟩ : ∃ q, Hid (P ^ K = q) := ⟨_, rfl⟩
  have CS := fun W => hF.size Hq W
  have hq64 : q ≤ 64 := by rw [← Hq.out]; exact hF.good.le64
  rw [Hq.out] at hfq hS hf HTim HAdd ⊢
  have hq1 : 1 < q := hfq.one
  have HG : Hid (∀ i, q ^ (i + 1) = q ^ i * q) := fun i => Nat.pow_succ q i
  have HUp : Hid (∀ i, i ≤ n → q ^ i ≤ 4096) := fun i hi => Nat.le_trans (Nat.pow_le_pow_right (show 0 < q by omega) hi) hf
  have H0 : Hid (q ^ 0 = 1) := Nat.pow_zero q
  have hA1 : 1 ≤ q ^ n := Nat.pow_pos (by omega)
  -- the pure part
  have HSt : Hid (OutS q n ad mu S 0 [0] (fun i => if i = 0 then true else false)) := outS_start hfq S
  have HMi : Hid (∀ i r L V, S[i]? = some r → Vc q n r → OutS q n ad mu S i L V → MidS q n ad mu S i r L 1 0 L V) := fun i r L V hr hv k => k.mid hfq hr hv
  have HDo : Hid (∀ i r L0 L V, S[i]? = some r → Vc q n r → MidS q n ad mu S i r L0 q 0 L V → OutS q n ad mu S (i + 1) L V) := fun i r L0 L V hr hv k => k.done hfq hS hr hv
  have HNo : Hid (∀ i r L0 x j L V z, S[i]? = some r → Vc q n r → x < q → j < L0.length → MidS q n ad mu S i r L0 x j L V → nxC q n ad mu r x (L0.getD j 0) = z → V z = false → MidS q n ad mu S i r L0 x (j + 1) (L ++ [z]) (fun i => if i = z then true else V i)) := fun i r L0 x j L V z hr hv hx hj k hz hV => k.no hfq hS hr hv hx hj hz hV
  have HNl : Hid (∀ r x a, Vc q n r → x < q → nxC q n ad mu r x a < q ^ n) := fun r x a hr hx => nxC_lt hfq hr hx a
  have HML : Hid (∀ x r k, x < q → Vc q n r → mu x (r.getD k 0) < q ∧ r.getD k 0 < q) := fun x r k hx hr => ⟨hfq.mu_lt _ _ hx (hr.at hfq.pos k), hr.at hfq.pos k⟩
  have HEnd : Hid (∀ L V, OutS q n ad mu S S.length L V → ∀ c, c < q ^ n → (V c = true ↔ Spn q ad mu n S (opn q n c))) := fun L V k c hc => by
    unfold OutS at k
    rw [List.take_length] at k
    rw [k.1.mrk c hc]
    exact ⟨fun h => k.1.is c h, fun h => k.2 c hc h⟩
  have HLe : Hid (∀ i L V, OutS q n ad mu S i L V → L.length ≤ q ^ n) := fun i L V k => k.1.len
  have HLe2 : Hid (∀ i r L0 x j L V, MidS q n ad mu S i r L0 x j L V → L.length ≤ q ^ n) := fun i r L0 x j L V k => k.k.len
  have HAt2 : Hid (∀ i r L0 x j L V h, MidS q n ad mu S i r L0 x j L V → h < L0.length → L.getD h 0 = L0.getD h 0 ∧ L0.getD h 0 < q ^ n ∧ h < L.length) := fun i r L0 x j L V h k hh => k.at hh
  obtain ⟨ua, uc, rfl, hrow⟩ := rows_at hu hS h1
  have HRow : Hid _ := hrow
  obtain ⟨fa, fn, fc, rfl⟩ : ∃ fa fn fc, v = .slice fa fn fc := by obtain ⟨a, c, e, _⟩ := hF.sl; exact ⟨a, _, c, e⟩
  obtain ⟨m, Hm⟩ : ∃ m, Hid (S.length = m) := ⟨_, rfl⟩
  rw [Hm.out] at hm HRow HEnd ⊢
  obtain ⟨A, HA⟩ : ∃ A, Hid (q ^ n = A) := ⟨_, rfl⟩
  rw [HA.out] at hf hA1 HAdd HNl HEnd HLe HLe2 HAt2 ⊢
  obtain ⟨w0, Hw0⟩ : ∃ w0, Hid (w.alloc (.cells #[.int .i64 (P : Int), .int .i64 (K : Int), .slice fa fn fc] 24) = w0) := ⟨_, rfl⟩
  obtain ⟨x0, x1, x2⟩ := HX _ (Below.refl _ _)
  have HX2 : Hid (∀ W, Below w0.heap.size w0 W → (W.cell? ⟨w.heap.size, 0, none⟩ = some (.int .i64 (P : Int)) ∧ W.cell? ⟨w.heap.size, 1, none⟩ = some (.int .i64 (K : Int)) ∧ W.cell? ⟨w.heap.size, 2, none⟩ = some (.slice fa fn fc))) := by rw [← Hw0.out]; exact HX
  have HB0 : Hid (Below w.heap.size w w0) := by rw [← Hw0.out]; exact hbx
  have hmk := run_makeB A (by omega)
  obtain ⟨f, Hf⟩ : ∃ f : Nat → Nat, Hid (∀ i, q ^ i = f i) := ⟨fun i => q ^ i, fun i => rfl⟩
  have HAf : Hid (f n = A) := by show _ = _; rw [← Hf.out]; exact HA.out
  simp only [Hf.out] at HG HUp H0
  clear hF HX hfq hu hS hrow hbx Hf Hm
  go_enter Tryd.func11, Tryd.ntmps11
  go_wp2_with (go_at_call 8; rw [Hw0.out]; refine (CS _).mono ?_; rintro e w1 ⟨rfl, b1⟩; clear CS)
  clear x0 x1 x2
  go_loopw [8, 9] (fun av iv wr => ∃ i y : Nat, iv = .int .i64 (i : Int) ∧ i ≤ n ∧ av = .int .i64 (y : Int) ∧ Hid (f i = y) ∧ wr = w1) (fun _ iv _ => (n - intOf iv).toNat)
  case atStart => exact ⟨0, 1, rfl, by omega, rfl, H0, rfl⟩
  case round =>
    obtain ⟨i, y, rfl, hi, rfl, Hy, hw⟩ := hrel
    replace hw := hw.symm
    subst hw
    by_cases hlt : i < n
    · have hdi : decide ((i : Int) < (n : Int)) = true := by simp; omega
      have hii : (i : Int) < (n : Int) := by omega
      obtain ⟨y2, Hy2⟩ : ∃ y2, Hid (y * q = y2) := ⟨_, rfl⟩
      have hmul : (y : Int) * (q : Int) = (y2 : Int) := by rw [← Hy2.out]; simp
      have hy4 := HUp.out i hi
      rw [Hy.out] at hy4
      have hb2 : y2 ≤ 4096 * 64 := by rw [← Hy2.out]; exact Nat.mul_le_mul hy4 hq64
      have HN : Hid (f (i + 1) = y2) := by show _ = _; rw [HG.out, Hy.out, Hy2.out]
      clear hmk
      go_wp2
      go_roundw
      case rel => exact ⟨i + 1, y2, by go_num, by omega, by go_num, HN, by first | rfl | trivial⟩
      case measure => simp [intOf]; omega
    · have hdi : decide ((i : Int) < (n : Int)) = false := by simp; omega
      have HYA : Hid (y = A) := by show _ = _; rw [← Hy.out, ← HAf.out, show i = n by omega]
      obtain rfl : y = A := HYA.out
      clear HYA Hy HAf HG HUp H0
      have c0 := (own_newB w1 y).cell (j := 0) (by omega)
      have f0 := (own_newB w1 y).frozen 0
      have hy0 : (0 : Int) < (y : Int) := by omega
      have hy0d : decide ((0 : Int) < (y : Int)) = true := by simp; omega
      have HW : Hid (SpW w0 ((w1.alloc (.cells ((madeCells #[.bool false] y).setIfInBounds 0 (.bool true)) 4)).alloc (.cells #[.int .i64 0] 3)) w1.heap.size y (w1.heap.size + 1) 1 1 [0] (fun i => if i = 0 then true else false)) := by
        have hs := b1.size
        refine ⟨(own_newT w1 y).below (balloc _ _), ?_, (b1.alloc hs _).alloc (by simp; omega) _, hs⟩
        refine ⟨by simp, .inr ⟨w1.heap.size + 1, 1, #[.int .i64 0], rfl, Nat.le_refl _, ?_, Nat.le_refl _, by unfold maxLen; omega, by simp, by simp⟩⟩
        have := heap_alloc_new (w1.alloc (.cells ((madeCells #[.bool false] y).setIfInBounds 0 (.bool true)) 4)) (.cells #[.int .i64 0] 3)
        simpa using this
      have HG1 : Hid (w0.heap.size ≤ w1.heap.size) := b1.size
      go_wp2
      clear c0 f0 hmk
      go_loopw [11, 12, 13, 14, 15, 16, 17, 18, 19] (fun lv iv _ _ _ _ _ _ _ wr => ∃ (i lg lm lc : Nat) (L : List Nat) (V : Nat → Bool), iv = .int .i64 (i : Int) ∧ i ≤ m ∧ lv = .slice (some ⟨lg, 0, none⟩) lm lc ∧ Hid (OutS q n ad mu S i L V) ∧ SpW w0 wr w1.heap.size y lg lm lc L V) (fun _ iv _ _ _ _ _ _ _ _ => (m - intOf iv).toNat)
      case atStart => exact ⟨0, w1.heap.size + 1, 1, 1, [0], _, rfl, by omega, by simp, HSt, by first | exact HW.out | simpa using HW.out⟩
      case round =>
        clear HW HSt b1
        obtain ⟨t, lg, lm, lc, L, V, rfl, ht, rfl, HO, HSW⟩ := hrel
        by_cases htm : t < m
        · have hdt : decide ((t : Int) < (m : Int)) = true := by simp; omega
          have hti : (t : Int) < (m : Int) := by omega
          obtain ⟨r, rob, off, rb, ro, rc, hrt, hvc, rfl, hcells⟩ := HRow.out t htm
          have HR : Hid (S[t]? = some r) := hrt
          have HV : Hid (Vc q n r) := hvc
          have HCe : Hid (∀ W, Below w0.heap.size w0 W → W.cell? ⟨rob, off + t, none⟩ = some (.slice (some ⟨rb, ro, none⟩) n rc) ∧ ∀ k, k < n → W.cell? ⟨rb, ro + k, none⟩ = some (.int .i64 (r.getD k 0 : Int))) := fun W hW => hcells W (Below.next HB0.out hW)
          have HM0 : Hid (MidS q n ad mu S t r L 1 0 L V) := HMi.out t r L V hrt hvc HO.out
          have hL0 : Hid (L.length = lm) := HSW.len
          have hlm : lm ≤ 4096 := by rw [← hL0.out]; exact Nat.le_trans (HLe.out t L V HO.out) hf
          clear hrt hvc hcells HO
          go_wp2
          go_loopw [11, 14, 15, 16, 17, 18, 19] (fun lv xv _ _ _ _ _ wr => ∃ (x lg2 lm2 lc2 : Nat) (L2 : List Nat) (V2 : Nat → Bool), xv = .int .i64 (x : Int) ∧ 1 ≤ x ∧ x ≤ q ∧ lv = .slice (some ⟨lg2, 0, none⟩) lm2 lc2 ∧ Hid (MidS q n ad mu S t r L x 0 L2 V2) ∧ SpW w0 wr w1.heap.size y lg2 lm2 lc2 L2 V2) (fun _ xv _ _ _ _ _ _ => (q - intOf xv).toNat)
          case atStart => exact ⟨1, lg, lm, lc, L, V, rfl, by omega, by omega, rfl, HM0, HSW⟩
          case round =>
            clear HM0 HSW
            obtain ⟨x, lg2, lm2, lc2, L2, V2, rfl, hx1, hxq, rfl, HM, HSW⟩ := hrel
            by_cases hxlt : x < q
            · have hdx : decide ((x : Int) < (q : Int)) = true := by simp; omega
              have hxi : (x : Int) < (q : Int) := by omega
              obtain ⟨wx, Hwx⟩ : ∃ wx, Hid (wx = wr) := ⟨_, rfl⟩
              have HSx : Hid (SpW w0 wx w1.heap.size y lg2 lm2 lc2 L2 V2) := by rw [Hwx.out]; exact HSW
              obtain ⟨gx, Hgx⟩ : ∃ gx, Hid (wx.heap.size = gx) := ⟨_, rfl⟩
              have Hst : Hid (Below gx wx wr) := by rw [← Hgx.out, Hwx.out]; exact Below.refl _ _
              have HBx : Hid (∀ W, Below gx wx W → Below w0.heap.size w0 W) := fun W b => Below.next HSx.out.b (by rw [Hgx.out]; exact b)
              clear HSW
              go_wp2
              go_loopw [15, 16, 17] (fun vv kv _ wr => ∃ k : Nat, kv = .int .i64 (k : Int) ∧ k ≤ n ∧ wr.ownsRow gx 3 1 vv k (((ofF k fun i => mu x (r.getD i 0)).map Int.ofNat).map (Value.int .i64)) ∧ Below gx wx wr) (fun _ kv _ _ => (n - intOf kv).toNat)
              case atStart => exact ⟨0, rfl, by omega, World.ownsRow_nil _ _ _ _, Hst.out⟩
              case round =>
                clear Hst
                obtain ⟨k, rfl, hk, hown, hB⟩ := hrel
                have hgs : gx ≤ wr.heap.size := by have := hB.size; rw [Hgx.out] at this; exact this
                have HN3 : Hid (∀ W, Below wr.heap.size wr W → Below gx wx W) := fun W b => by
                  have h := hB
                  rw [← Hgx.out] at h ⊢
                  exact Below.next h b
                by_cases hkn : k < n
                · have hdk : decide ((k : Int) < (n : Int)) = true := by simp; omega
                  have hki : (k : Int) < (n : Int) := by omega
                  have hBw := HBx.out wr hB
                  obtain ⟨ls, ly⟩ := HML.out x r k hxlt HV.out
                  have hS0 : Hid (∀ W, Below wr.heap.size wr W → (W.cell? ⟨w.heap.size, 0, none⟩ = some (.int .i64 (P : Int)) ∧ W.cell? ⟨w.heap.size, 1, none⟩ = some (.int .i64 (K : Int)) ∧ W.cell? ⟨w.heap.size, 2, none⟩ = some (.slice fa fn fc) ∧ W.cell? ⟨rob, off + t, none⟩ = some (.slice (some ⟨rb, ro, none⟩) n rc) ∧ W.cell? ⟨rb, ro + k, none⟩ = some (.int .i64 (r.getD k 0 : Int)))) := fun W hW => by
                    obtain ⟨y0, y1, y2⟩ := HX2.out W (Below.next hBw hW)
                    obtain ⟨k1, k2⟩ := HCe.out W (Below.next hBw hW)
                    exact ⟨y0, y1, y2, k1, k2 k hkn⟩
                  obtain ⟨yk, Hyk⟩ : ∃ yk, Hid (r.getD k 0 = yk) := ⟨_, rfl⟩
                  obtain ⟨s, Hs⟩ : ∃ s, Hid (mu x yk = s) := ⟨_, rfl⟩
                  have HS2 : Hid (mu x (r.getD k 0) = s) := by show _ = _; rw [Hyk.out, Hs.out]
                  rw [Hyk.out] at hS0 ly
                  rw [HS2.out] at ls
                  have CT := fun W (b : Below wr.heap.size wr W) => HTim.out W (Below.next HB0.out (Below.next hBw b)) x yk hxlt ly s Hs
                  have p1 : Below wr.heap.size wr wr := Below.refl _ _
                  have hS := hS0
                  clear hS0 hBw hB
                  go_wp2
                  refine wp_region_noPanic ?_
                  refine wp_region_held_drew (S := fun W => W.cell? ⟨w.heap.size, 0, none⟩ = some (.int .i64 (P : Int)) ∧ W.cell? ⟨w.heap.size, 1, none⟩ = some (.int .i64 (K : Int)) ∧ W.cell? ⟨w.heap.size, 2, none⟩ = some (.slice fa fn fc) ∧ W.cell? ⟨rob, off + t, none⟩ = some (.slice (some ⟨rb, ro, none⟩) n rc) ∧ W.cell? ⟨rb, ro + k, none⟩ = some (.int .i64 (yk : Int))) (by kernel_rfl) (hS.out _ p1.drew) (fun hSx => ?_)
                  refine wpAnyH_take (i := 0) (v := .agg #[.int .i64 (P : Int), .int .i64 (K : Int), .slice fa fn fc]) rfl (by kernel_rfl) (by kernel_rfl) (by kernel_rfl) (fun _ _ _ h => h) (Or.inl ⟨by rfl, fun w' hSw => by (try dsimp only at hSw); obtain ⟨hs0, hs1, hs2, hs3, hs4⟩ := hSw; go_simp⟩) hSx ?_
                  try simp only [Act.put, List.setIfInBounds_toArray]
                  refine wpAnyH_take (i := 1) (v := .int .i64 (x : Int)) rfl (by kernel_rfl) (by kernel_rfl) (by kernel_rfl) (fun _ _ _ h => h) (Or.inl ⟨by rfl, fun w' hSw => by (try dsimp only at hSw); obtain ⟨hs0, hs1, hs2, hs3, hs4⟩ := hSw; go_simp⟩) hSx ?_
                  try simp only [Act.put]
                  refine wpAnyH_take (i := 2) (v := .slice (some ⟨rob, off, none⟩) m uc) rfl (by kernel_rfl) (by kernel_rfl) (by kernel_rfl) (fun _ _ _ h => h) (Or.inl ⟨by rfl, fun w' hSw => by (try dsimp only at hSw); obtain ⟨hs0, hs1, hs2, hs3, hs4⟩ := hSw; go_simp⟩) hSx ?_
                  try simp only [Act.put]
                  refine wpAnyH_take (i := 3) (v := .int .i64 (t : Int)) rfl (by kernel_rfl) (by kernel_rfl) (by kernel_rfl) (fun _ _ _ h => h) (Or.inl ⟨by rfl, fun w' hSw => by (try dsimp only at hSw); obtain ⟨hs0, hs1, hs2, hs3, hs4⟩ := hSw; go_simp⟩) hSx ?_
                  try simp only [Act.put]
                  refine wpAnyH_take (i := 4) (v := .pointer (some ⟨rob, off + t, none⟩)) rfl (by kernel_rfl) (by kernel_rfl) (by kernel_rfl) (fun _ _ _ h => h) (Or.inl ⟨by rfl, fun w' hSw => by (try dsimp only at hSw); obtain ⟨hs0, hs1, hs2, hs3, hs4⟩ := hSw; go_simp⟩) hSx ?_
                  try simp only [Act.put]
                  refine wpAnyH_take (i := 5) (v := .slice (some ⟨rb, ro, none⟩) n rc) rfl (by kernel_rfl) (by kernel_rfl) (by kernel_rfl) (fun _ _ _ h => h) (Or.inl ⟨by rfl, fun w' hSw => by (try dsimp only at hSw); obtain ⟨hs0, hs1, hs2, hs3, hs4⟩ := hSw; go_simp⟩) hSx ?_
                  try simp only [Act.put]
                  refine wpAnyH_take (i := 6) (v := .int .i64 (k : Int)) rfl (by kernel_rfl) (by kernel_rfl) (by kernel_rfl) (fun _ _ _ h => h) (Or.inl ⟨by rfl, fun w' hSw => by (try dsimp only at hSw); obtain ⟨hs0, hs1, hs2, hs3, hs4⟩ := hSw; go_simp⟩) hSx ?_
                  try simp only [Act.put]
                  refine wpAnyH_take (i := 7) (v := .pointer (some ⟨rb, ro + k, none⟩)) rfl (by kernel_rfl) (by kernel_rfl) (by kernel_rfl) (fun _ _ _ h => h) (Or.inl ⟨by rfl, fun w' hSw => by (try dsimp only at hSw); obtain ⟨hs0, hs1, hs2, hs3, hs4⟩ := hSw; go_simp⟩) hSx ?_
                  try simp only [Act.put]
                  refine wpAnyH_take (i := 8) (v := .int .i64 (yk : Int)) rfl (by kernel_rfl) (by kernel_rfl) (by kernel_rfl) (fun _ _ _ h => h) (Or.inl ⟨by rfl, fun w' hSw => by (try dsimp only at hSw); obtain ⟨hs0, hs1, hs2, hs3, hs4⟩ := hSw; go_simp⟩) hSx ?_
                  try simp only [Act.put]
                  refine wpAnyH_ready (rs := [9]) (by kernel_rfl) (by simp) ?_
                  refine (AllReadyH.cons rfl (fun J hJ => ?_) AllReadyH.nil)
                  go_simp
                  refine (CT _ p1.drew).mono ?_
                  rintro e w3 ⟨rfl, bv1⟩
                  have p2 : Below wr.heap.size wr w3 := Below.next p1.drew bv1
                  go_wp2_with fail
                  refine hJ.out _ _ (hS.out _ p2) (fun hSx => ?_)
                  clear hJ J
                  try simp only [Act.put, List.setIfInBounds_toArray, List.set_cons_zero, List.set_cons_succ]
                  refine wpAnyH_ready (rs := [10]) (by kernel_rfl) (by simp) ?_
                  refine (AllReadyH.cons rfl (fun J hJ => ?_) AllReadyH.nil)
                  go_simp
                  refine hJ.out _ _ (hS.out _ p2) (fun hSx => ?_)
                  clear hJ J
                  try simp only [Act.put, List.setIfInBounds_toArray, List.set_cons_zero, List.set_cons_succ]
                  refine wpAnyH_done (by kernel_rfl) ?_ _
                  refine NoPanic.normal ?_
                  have hown3 := own_keep hown (fun b _ hb => p2.block b hb)
                  have hB3 := HN3.out w3 p2
                  have hgs3 : gx ≤ w3.heap.size := by have := p2.size; omega
                  clear hSx hS CT HN3 hown
                  go_wp2_with (first
                    | (at_builtin; refine wpList_append_own _ rfl _ _ 22 rfl gx 3 i3 (.int .i64 0) 1 8 und22 HI3.out.1 HI3.out.2.1 HI3.out.2.2.1 HI3.out.2.2.2 rfl (by decide) _ _ _ rfl (hown3.alloc _) ⟨w3.heap.size, 0, none⟩ 1 1 [.int .i64 (s : Int)] rfl rfl (fun j u hj => by (match j, hj with | 0, hj => simp at hj; subst hj; simp [Addr.add])) (fun u hu => by (simp at hu; subst hu; rfl)) (by (unfold maxLen; omega)) (by omega) (by (simp; omega)) ?_; intro v' w4 hown' hgrow _)
                    | go_in)
                  have hb4 : Below gx wx w4 := (hB3.alloc (by omega) _).grown hgrow (by simp; omega) (fun k hk => (hown3.lt k hk).1)
                  have hown4 : w4.ownsRow gx 3 1 v' (k + 1) (((ofF (k + 1) fun i => mu x (r.getD i 0)).map Int.ofNat).map (Value.int .i64)) := by
                    rw [ofF_snoc, List.map_append, List.map_append, HS2.out]
                    exact hown'
                  clear hown' hgrow hown3 hB3
                  go_roundw
                  case rel => exact ⟨k + 1, by go_num, by omega, hown4, hb4⟩
                  case measure => simp [intOf]; omega
                · have hdk : decide ((k : Int) < (n : Int)) = false := by simp; omega
                  obtain rfl : n = k := by omega
                  obtain ⟨vg, vc, rfl, hvg, hvl⟩ := hown.form (by omega)
                  have hv : Hid (VR wr vg n fun i => mu x (r.getD i 0)) := VR.of hown
                  have HSj : Hid (SpW w0 wr w1.heap.size y lg2 lm2 lc2 L2 V2) := HSx.out.below (by rw [Hgx.out]; exact hB)
                  have hlgx : lg2 < gx := by have := HSx.out.lt; rw [Hgx.out] at this; omega
                  have hGgx : w1.heap.size < gx := by have := HSx.out.own.lt; rw [Hgx.out] at this; omega
                  clear hown hB HSx HBx HN3 hgs
                  go_wp2
                  go_loopw [11, 18, 19] (fun lv jv _ wr => ∃ (j lg3 lm3 lc3 : Nat) (L3 : List Nat) (V3 : Nat → Bool), jv = .int .i64 (j : Int) ∧ j ≤ lm ∧ lv = .slice (some ⟨lg3, 0, none⟩) lm3 lc3 ∧ Hid (MidS q n ad mu S t r L x j L3 V3) ∧ Hid (VR wr vg n fun i => mu x (r.getD i 0)) ∧ lg3 ≠ vg ∧ SpW w0 wr w1.heap.size y lg3 lm3 lc3 L3 V3) (fun _ jv _ _ => (lm - intOf jv).toNat)
                  case atStart => exact ⟨0, lg2, lm2, lc2, L2, V2, rfl, by omega, rfl, HM, hv, by omega, HSj.out⟩
                  case round =>
                    clear HM hv HSj
                    obtain ⟨j, lg3, lm3, lc3, L3, V3, rfl, hj, rfl, HM3, HVR, hne, HSW3⟩ := hrel
                    by_cases hjl : j < lm
                    · have hdj : decide ((j : Int) < (lm : Int)) = true := by simp; omega
                      have hji : (j : Int) < (lm : Int) := by omega
                      have hjL : j < L.length := by rw [hL0.out]; exact hjl
                      obtain ⟨e1, e2, e3⟩ := HAt2.out t r L x j L3 V3 j HM3.out hjL
                      have hl3 := HSW3.len
                      rw [hl3] at e3
                      have h34 : lm3 ≤ 4096 := by rw [← hl3]; exact Nat.le_trans (HLe2.out t r L x j L3 V3 HM3.out) hf
                      have hj3 : (j : Int) < (lm3 : Int) := by omega
                      have c1 := HSW3.cell e3
                      rw [e1] at c1
                      obtain ⟨a, Ha⟩ : ∃ a, Hid (L.getD j 0 = a) := ⟨_, rfl⟩
                      rw [Ha.out] at c1 e2
                      obtain ⟨z, Hz⟩ : ∃ z, Hid (nxC q n ad mu r x a = z) := ⟨_, rfl⟩
                      have hzl : z < y := by rw [← Hz.out]; exact HNl.out r x a HV.out hxlt
                      have hzi : (z : Int) < (y : Int) := by omega
                      have CA := fun W (b : Below wr.heap.size wr W) => HAdd.out W (Below.next HB0.out (Below.next HSW3.b b)) r (.slice (some ⟨vg, 0, none⟩) n vc) x a HV.out hxlt e2 ((HVR.out.below b).sl vc) z Hz
                      have hS : Hid (∀ W, Below wr.heap.size wr W → (W.cell? ⟨w.heap.size, 0, none⟩ = some (.int .i64 (P : Int)) ∧ W.cell? ⟨w.heap.size, 1, none⟩ = some (.int .i64 (K : Int)) ∧ W.cell? ⟨w.heap.size, 2, none⟩ = some (.slice fa fn fc) ∧ W.cell? ⟨lg3, j, none⟩ = some (.int .i64 (a : Int)))) := fun W hW => by
                        obtain ⟨y0, y1, y2⟩ := HX2.out W (Below.next HSW3.b hW)
                        exact ⟨y0, y1, y2, (hW.cell (p := ⟨lg3, j, none⟩) HSW3.lt.2).trans c1⟩
                      have p1 : Below wr.heap.size wr wr := Below.refl _ _
                      have HS3 : Hid (SpW w0 wr w1.heap.size y lg3 lm3 lc3 L3 V3) := HSW3
                      clear HSW3 c1 e1 hl3
                      go_wp2
                      refine wp_region_noPanic ?_
                      refine wp_region_held_drew (S := fun W => W.cell? ⟨w.heap.size, 0, none⟩ = some (.int .i64 (P : Int)) ∧ W.cell? ⟨w.heap.size, 1, none⟩ = some (.int .i64 (K : Int)) ∧ W.cell? ⟨w.heap.size, 2, none⟩ = some (.slice fa fn fc) ∧ W.cell? ⟨lg3, j, none⟩ = some (.int .i64 (a : Int))) (by kernel_rfl) (hS.out _ p1.drew) (fun hSx => ?_)
                      refine wpAnyH_take (i := 0) (v := .agg #[.int .i64 (P : Int), .int .i64 (K : Int), .slice fa fn fc]) rfl (by kernel_rfl) (by kernel_rfl) (by kernel_rfl) (fun _ _ _ h => h) (Or.inl ⟨by rfl, fun w' hSw => by (try dsimp only at hSw); obtain ⟨hs0, hs1, hs2, hs3⟩ := hSw; go_simp⟩) hSx ?_
                      try simp only [Act.put, List.setIfInBounds_toArray]
                      refine wpAnyH_take (i := 1) (v := .int .i64 (n : Int)) rfl (by kernel_rfl) (by kernel_rfl) (by kernel_rfl) (fun _ _ _ h => h) (Or.inl ⟨by rfl, fun w' hSw => by (try dsimp only at hSw); obtain ⟨hs0, hs1, hs2, hs3⟩ := hSw; go_simp⟩) hSx ?_
                      try simp only [Act.put]
                      refine wpAnyH_take (i := 2) (v := .slice (some ⟨lg3, 0, none⟩) lm3 lc3) rfl (by kernel_rfl) (by kernel_rfl) (by kernel_rfl) (fun _ _ _ h => h) (Or.inl ⟨by rfl, fun w' hSw => by (try dsimp only at hSw); obtain ⟨hs0, hs1, hs2, hs3⟩ := hSw; go_simp⟩) hSx ?_
                      try simp only [Act.put]
                      refine wpAnyH_take (i := 3) (v := .int .i64 (j : Int)) rfl (by kernel_rfl) (by kernel_rfl) (by kernel_rfl) (fun _ _ _ h => h) (Or.inl ⟨by rfl, fun w' hSw => by (try dsimp only at hSw); obtain ⟨hs0, hs1, hs2, hs3⟩ := hSw; go_simp⟩) hSx ?_
                      try simp only [Act.put]
                      refine wpAnyH_take (i := 4) (v := .pointer (some ⟨lg3, j, none⟩)) rfl (by kernel_rfl) (by kernel_rfl) (by kernel_rfl) (fun _ _ _ h => h) (Or.inl ⟨by rfl, fun w' hSw => by (try dsimp only at hSw); obtain ⟨hs0, hs1, hs2, hs3⟩ := hSw; go_simp⟩) hSx ?_
                      try simp only [Act.put]
                      refine wpAnyH_take (i := 5) (v := .int .i64 (a : Int)) rfl (by kernel_rfl) (by kernel_rfl) (by kernel_rfl) (fun _ _ _ h => h) (Or.inl ⟨by rfl, fun w' hSw => by (try dsimp only at hSw); obtain ⟨hs0, hs1, hs2, hs3⟩ := hSw; go_simp⟩) hSx ?_
                      try simp only [Act.put]
                      refine wpAnyH_take (i := 6) (v := .slice (some ⟨vg, 0, none⟩) n vc) rfl (by kernel_rfl) (by kernel_rfl) (by kernel_rfl) (fun _ _ _ h => h) (Or.inl ⟨by rfl, fun w' hSw => by (try dsimp only at hSw); obtain ⟨hs0, hs1, hs2, hs3⟩ := hSw; go_simp⟩) hSx ?_
                      try simp only [Act.put]
                      refine wpAnyH_ready (rs := [7]) (by kernel_rfl) (by simp) ?_
                      refine (AllReadyH.cons rfl (fun J hJ => ?_) AllReadyH.nil)
                      go_simp
                      refine (CA _ p1.drew).mono ?_
                      rintro e w3 ⟨rfl, bv1⟩
                      have p2 : Below wr.heap.size wr w3 := Below.next p1.drew bv1
                      go_wp2_with fail
                      refine hJ.out _ _ (hS.out _ p2) (fun hSx => ?_)
                      clear hJ J
                      try simp only [Act.put, List.setIfInBounds_toArray, List.set_cons_zero, List.set_cons_succ]
                      refine wpAnyH_ready (rs := [8]) (by kernel_rfl) (by simp) ?_
                      refine (AllReadyH.cons rfl (fun J hJ => ?_) AllReadyH.nil)
                      go_simp
                      refine hJ.out _ _ (hS.out _ p2) (fun hSx => ?_)
                      clear hJ J
                      try simp only [Act.put, List.setIfInBounds_toArray, List.set_cons_zero, List.set_cons_succ]
                      refine wpAnyH_done (by kernel_rfl) ?_ _
                      refine NoPanic.normal ?_
                      have HW3 : Hid (SpW w0 w3 w1.heap.size y lg3 lm3 lc3 L3 V3) := HS3.out.below p2
                      have HV3 : Hid (VR w3 vg n fun i => mu x (r.getD i 0)) := HVR.out.below p2
                      have c2 := HW3.out.own.cell hzl
                      have f2 := HW3.out.own.frozen z
                      have hzz : nxC q n ad mu r x (L.getD j 0) = z := by rw [Ha.out, Hz.out]
                      have HZZ : Hid (nxC q n ad mu r x (L.getD j 0) = z) := hzz
                      clear hSx hS CA hzz HS3 HVR
                      by_cases hb : V3 z = true
                      · have HM4 : Hid (MidS q n ad mu S t r L x (j + 1) L3 V3) := HM3.out.yes HZZ.out (by rw [HA.out]; exact hzl) hb
                        rw [hb] at c2
                        clear hb
                        go_wp2
                        go_roundw
                        case rel => exact ⟨j + 1, lg3, lm3, lc3, L3, V3, by go_num, by omega, rfl, HM4, HV3, hne, HW3.out⟩
                        case measure => simp [intOf]; omega
                      · have hbf : V3 z = false := by simpa using hb
                        have HM4 := HNo.out t r L x j L3 V3 z HR.out HV.out hxlt hjL HM3.out HZZ.out hbf
                        have HM5 : Hid (MidS q n ad mu S t r L x (j + 1) (L3 ++ [z]) (fun i => if i = z then true else V3 i)) := HM4
                        rw [hbf] at c2
                        have HMk : Hid (SpW w0 (w3.setCell ⟨w1.heap.size, z, none⟩ (.bool true)) w1.heap.size y lg3 lm3 lc3 L3 (fun i => if i = z then true else V3 i)) := HW3.out.mark z
                        have HVm : Hid (VR (w3.setCell ⟨w1.heap.size, z, none⟩ (.bool true)) vg n fun i => mu x (r.getD i 0)) := HV3.out.setO _ _ (by show vg ≠ w1.heap.size; omega)
                        have hgs3 : w1.heap.size + 1 ≤ w3.heap.size := HW3.out.own.lt
                        have hvg3 : vg < w3.heap.size := HV3.out.1
                        have HNw : Hid (∀ (j : Nat) (u : Value), [Value.int .i64 (z : Int)][j]? = some u → ((w3.setCell ⟨w1.heap.size, z, none⟩ (.bool true)).alloc (.cells #[.int .i64 (z : Int)] 3)).cell? ((⟨w3.heap.size, 0, none⟩ : Addr).add j) = some u) := fun j u hj => by
                          have h := World.news_of_block (heap_alloc_new (w3.setCell ⟨w1.heap.size, z, none⟩ (.bool true)) (.cells #[.int .i64 (z : Int)] 3)) j u hj
                          simpa using h
                        clear hb hbf HM4
                        go_wp2_with (first
                          | (at_builtin; refine wpList_append_lies _ rfl _ _ 22 rfl (w1.heap.size + 1) 3 i3 (.int .i64 0) 1 8 und22 HI3.out.1 HI3.out.2.1 HI3.out.2.2.1 HI3.out.2.2.2 rfl (by decide) (.slice (some ⟨lg3, 0, none⟩) lm3 lc3) lm3 _ rfl (HMk.out.row.alloc _) ⟨w3.heap.size, 0, none⟩ 1 1 [.int .i64 (z : Int)] rfl rfl HNw.out (fun u hu => by (simp at hu; subst hu; rfl)) (by decide) (by (unfold maxLen; omega)) (by omega) (by (simp; omega)) (w3.heap.size + 1) (by simp) ?_; intro lg4 lc4 w6 hown' hgrow hl4 hlt4)
                          | go_in)
                        have HSf : SpW w0 w6 w1.heap.size y lg4 (lm3 + 1) lc4 (L3 ++ [z]) (fun i => if i = z then true else V3 i) := HMk.out.grow hgrow hown'
                        have HVf : Hid (VR w6 vg n fun i => mu x (r.getD i 0)) := by
                          refine (HVm.out.below (balloc _ (.cells #[.int .i64 (z : Int)] 3))).keep hgrow.size (hgrow.block vg (by simp; omega) ?_)
                          intro e
                          have : vg = lg3 := by simpa [Value.ownBlock] using e
                          omega
                        have hne4 : lg4 ≠ vg := by
                          rcases hl4 with e | e
                          · have : lg3 = lg4 := by simpa [Value.ownBlock] using e
                            omega
                          · omega
                        clear hown' hgrow hl4 HMk HVm HW3 HV3
                        go_roundw
                        case rel => exact ⟨j + 1, lg4, lm3 + 1, lc4, L3 ++ [z], _, by go_num, by omega, rfl, HM5, HVf, hne4, HSf⟩
                        case measure => simp [intOf]; omega
                    · have hdj : decide ((j : Int) < (lm : Int)) = false := by simp; omega
                      have hjn : ¬ j < lm := hjl
                      have HM6 : Hid (MidS q n ad mu S t r L (x + 1) 0 L3 V3) := HM3.out.row (by rw [hL0.out]; omega)
                      go_wp2
                      go_roundw
                      case rel => exact ⟨x + 1, lg3, lm3, lc3, L3, V3, by go_num, by omega, by omega, rfl, HM6, HSW3⟩
                      case measure => simp [intOf]; omega
            · have hdx : decide ((x : Int) < (q : Int)) = false := by simp; omega
              obtain rfl : q = x := by omega
              have HO2 : Hid (OutS q n ad mu S (t + 1) L2 V2) := HDo.out t r L L2 V2 HR.out HV.out HM.out
              go_wp2
              go_roundw
              case rel => exact ⟨t + 1, lg2, lm2, lc2, L2, V2, by go_num, by omega, rfl, HO2, HSW⟩
              case measure => simp [intOf]; omega
        · have hdt : decide ((t : Int) < (m : Int)) = false := by simp; omega
          have htn : ¬ t < m := by omega
          have HE := HEnd.out L V (by rw [show m = t by omega]; exact HO.out)
          have HE2 : Hid (∀ c, c < y → (V c = true ↔ Spn q ad mu n S (opn q n c))) := HE
          have hown := HSW.own
          have hBB := Below.next HB0.out HSW.b
          clear HE HSW
          go_wp2
          go_ret
          exact ⟨w1.heap.size, V, rfl, hown, HE2.out, hBB⟩
end Go.Proofs.YtjfjdidibglhaabDoor

/- array.added, walked. -/
namespace Go.Proofs.YtjfjdidibglhaabDoor
open Go.RowKit

set_option maxRecDepth 100000 in
set_option maxHeartbeats 8000000 in
theorem addR_any (P K n x : Nat) (l : List Int) (r s : List Nat) (v u y : Value) (w : World) (hF : Fld P K l v w) (hu : Sl w u (r.map Int.ofNat)) (hr : Vc (P ^ K) n r) (hy : Sl w y (s.map Int.ofNat)) (hs : Vc (P ^ K) n s) (hx : x < P ^ K) (h1 : 1 ≤ n) (hn : n ≤ 6) :
    Calls Tryd.prog 41 #[.agg #[.int .i64 (P : Int), .int .i64 (K : Int), v], u, .int .i64 (x : Int), y] w fun e w' => ∃ g, e = .returned (.slice (some ⟨g, 0, none⟩) n n) ∧ w.heap.size ≤ g ∧ OwnN w' g n (fun i => adF P K (r.getD i 0) (muF P K l x (s.getD i 0))) ∧ Below w.heap.size w w' := by
  have hfq := hF.fqr
  have hbx := balloc w (.cells #[.int .i64 (P : Int), .int .i64 (K : Int), v] 24)
  have HX := fl_box (P : Int) (K : Int) v w
  have HMul : Hid (∀ W, Below w.heap.size w W → ∀ b, b < P ^ K → ∀ s, Hid (muF P K l x b = s) → Calls Tryd.prog 32 #[.agg #[.int .i64 (P : Int), .int .i64 (K : Int), v], .int .i64 (x : Int), .int .i64 (b : Int)] W fun e w' => e = .returned (.tuple #[.int .i64 (s : Int), .int .i64 0]) ∧ Below W.heap.size W w') := fun W b y hy s hs => by
    have h := hF.below b
    exact Fd.MulG P K x y l v W h.tab h.sl h.len h.good hx hy s hs.out.symm
  have HAdd : Hid (∀ W, Below w.heap.size w W → ∀ a b, a < P ^ K → b < P ^ K → ∀ s, Hid (adF P K a b = s) → Calls Tryd.prog 72 #[.agg #[.int .i64 (P : Int), .int .i64 (K : Int), v], .int .i64 (a : Int), .int .i64 (b : Int)] W fun e w' => e = .returned (.tuple #[.int .i64 (s : Int), .int .i64 0]) ∧ Below W.heap.size W w') := fun W b x y hx hy s hs => by
    have h := hF.below b
    exact Fd.AddG P K x y l v W h.tab h.sl h.len h.good hx hy s hs.out.symm
  have HA1 : Hid (∀ i, r.getD i 0 < P ^ K) := fun i => hr.at hfq.pos i
  have HA2 : Hid (∀ i, s.getD i 0 < P ^ K) := fun i => hs.at hfq.pos i
  have HML : Hid (∀ b, b < P ^ K → muF P K l x b < P ^ K) := fun b hb => hfq.mu_lt _ _ hx hb
  obtain ⟨ad, Had⟩ : ∃ ad, Hid (adF P K = ad) := ⟨_, rfl⟩
  obtain ⟨mu, Hmu⟩ : ∃ mu, Hid (muF P K l = mu) := ⟨_, rfl⟩
  obtain ⟨q, Hq⟩ : ∃ q, Hid (P ^ K = q) := ⟨_, rfl⟩
  rw [Hq.out] at HMul HAdd HA1 HA2 HML hr hs
  rw [Had.out] at HAdd
  rw [Hmu.out] at HMul HML
  rw [Had.out, Hmu.out]
  obtain ⟨fa, fn, fc, rfl⟩ : ∃ fa fn fc, v = .slice fa fn fc := by obtain ⟨a, c, e, _⟩ := hF.sl; exact ⟨a, _, c, e⟩
  have hl : (r.map Int.ofNat).length = n := by rw [List.length_map, hr.len]
  obtain ⟨ub, uo, uc, rfl, hub, huc⟩ := hu.form hl (by omega)
  have hl2 : (s.map Int.ofNat).length = n := by rw [List.length_map, hs.len]
  obtain ⟨yb, yo, yc, rfl, hyb, hyc⟩ := hy.form hl2 (by omega)
  have HU : Hid (∀ W, Below w.heap.size w W → ∀ j, j < n → W.cell? ⟨ub, uo + j, none⟩ = some (.int .i64 ((r.getD j 0 : Nat) : Int))) := fun W bW j hj => by
    rw [(bW.cell (p := ⟨ub, uo + j, none⟩) hub), huc j hj]
    simp [List.getD_eq_getElem?_getD, show j < r.length by rw [hr.len]; exact hj]
  have HY : Hid (∀ W, Below w.heap.size w W → ∀ j, j < n → W.cell? ⟨yb, yo + j, none⟩ = some (.int .i64 ((s.getD j 0 : Nat) : Int))) := fun W bW j hj => by
    rw [(bW.cell (p := ⟨yb, yo + j, none⟩) hyb), hyc j hj]
    simp [List.getD_eq_getElem?_getD, show j < s.length by rw [hs.len]; exact hj]
  have hmk := run_makeN n (by omega)
  obtain ⟨w0, Hw0⟩ : ∃ w0, Hid (w.alloc (.cells #[.int .i64 (P : Int), .int .i64 (K : Int), .slice fa fn fc] 24) = w0) := ⟨_, rfl⟩
  have HX2 : Hid (∀ W, Below w0.heap.size w0 W → (W.cell? ⟨w.heap.size, 0, none⟩ = some (.int .i64 (P : Int)) ∧ W.cell? ⟨w.heap.size, 1, none⟩ = some (.int .i64 (K : Int)) ∧ W.cell? ⟨w.heap.size, 2, none⟩ = some (.slice fa fn fc))) := by rw [← Hw0.out]; exact HX
  have HB0 : Hid (Below w.heap.size w w0) := by rw [← Hw0.out]; exact hbx
  have ho := own_new w0 n
  have b1 := balloc w0 (.cells (madeCells #[.int .i64 0] n) 3)
  have hg0 : w.heap.size ≤ w0.heap.size := HB0.out.size
  have hgx : w0.heap.size = w.heap.size + 1 := by rw [← Hw0.out]; simp
  obtain ⟨w1, Hw1⟩ : ∃ w1, Hid (w0.alloc (.cells (madeCells #[.int .i64 0] n) 3) = w1) := ⟨_, rfl⟩
  obtain ⟨g, Hg⟩ : ∃ g, Hid (w0.heap.size = g) := ⟨_, rfl⟩
  have HG : Hid (w.heap.size ≤ g ∧ w0.heap.size ≤ g) := ⟨by rw [← Hg.out]; exact hg0, by rw [← Hg.out]; exact Nat.le_refl _⟩
  have HM1 : Hid ((w.alloc (.cells #[.int .i64 (P : Int), .int .i64 (K : Int), .slice fa fn fc] 24)).alloc (.cells (madeCells #[.int .i64 0] n) 3) = w1 ∧ (w.alloc (.cells #[.int .i64 (P : Int), .int .i64 (K : Int), .slice fa fn fc] 24)).heap.size = g) := by rw [Hw0.out, Hw1.out, Hg.out]; exact ⟨rfl, rfl⟩
  rw [Hw1.out, Hg.out] at ho
  rw [Hw1.out] at b1
  clear hF HX hfq huc hu hbx hyc hy hgx hg0
  go_enter Tryd.func41, Tryd.ntmps41
  go_wp2_with fail
  rw [HM1.out.1]
  rw [show w.heap.size + 1 = g by rw [← HM1.out.2]; simp]
  go_loopw [19] (fun iv wr => ∃ i : Nat, iv = .int .i64 (i : Int) ∧ i ≤ n ∧ OwnN wr g n (fun j => if j < i then ad (r.getD j 0) (mu x (s.getD j 0)) else 0) ∧ Below w0.heap.size w0 wr) (fun iv _ => (n - intOf iv).toNat)
  case atStart => exact ⟨0, rfl, by omega, ho, b1⟩
  case round =>
    clear ho b1 hmk
    obtain ⟨i, rfl, hi, hm, hB⟩ := hrel
    have hBB := Below.next HB0.out hB
    by_cases hlt : i < n
    · have hii : (i : Int) < (n : Int) := by omega
      have hdi : decide ((i : Int) < (n : Int)) = true := by simp; omega
      have k1 := hm.cell hlt
      have k2 := HU.out wr hBB i hlt
      have k3 := HY.out wr hBB i hlt
      have l1 := HA1.out i
      have l2 := HA2.out i
      have hset := fun W (b : Below wr.heap.size wr W) => (hm.below b).set (f' := fun j => if j < i + 1 then ad (r.getD j 0) (mu x (s.getD j 0)) else 0) i (ad (r.getD i 0) (mu x (s.getD i 0))) (fun j hj => by
        show (if j = i then ad (r.getD i 0) (mu x (s.getD i 0)) else if j < i then ad (r.getD j 0) (mu x (s.getD j 0)) else 0) = if j < i + 1 then ad (r.getD j 0) (mu x (s.getD j 0)) else 0
        by_cases e : j = i
        · rw [if_pos e, if_pos (by omega), e]
        · rw [if_neg e]
          by_cases h : j < i
          · rw [if_pos h, if_pos (by omega)]
          · rw [if_neg h, if_neg (by omega)])
      obtain ⟨c, Hc⟩ : ∃ c, Hid (r.getD i 0 = c) := ⟨_, rfl⟩
      obtain ⟨d, Hd⟩ : ∃ d, Hid (s.getD i 0 = d) := ⟨_, rfl⟩
      rw [Hc.out] at k2 l1 hset
      rw [Hd.out] at k3 l2 hset
      have l3 := HML.out d l2
      obtain ⟨m, Hm⟩ : ∃ m, Hid (mu x d = m) := ⟨_, rfl⟩
      rw [Hm.out] at hset l3
      obtain ⟨t, Ht⟩ : ∃ t, Hid (ad c m = t) := ⟨_, rfl⟩
      rw [Ht.out] at hset
      have CM := fun W (hW : Below wr.heap.size wr W) => HMul.out W (Below.next hBB hW) d l2 m Hm
      have CA := fun W (hW : Below wr.heap.size wr W) => HAdd.out W (Below.next hBB hW) c m l1 l3 t Ht
      have hS : Hid (∀ W, Below wr.heap.size wr W → (W.cell? ⟨w.heap.size, 0, none⟩ = some (.int .i64 (P : Int)) ∧ W.cell? ⟨w.heap.size, 1, none⟩ = some (.int .i64 (K : Int)) ∧ W.cell? ⟨w.heap.size, 2, none⟩ = some (.slice fa fn fc) ∧ W.cell? ⟨yb, yo + i, none⟩ = some (.int .i64 (d : Int)))) := fun W hW => by
        obtain ⟨y0, y1, y2⟩ := HX2.out W (Below.next hB hW)
        have h := HY.out W (Below.next hBB hW) i hlt
        rw [Hd.out] at h
        exact ⟨y0, y1, y2, h⟩
      have HNext : Hid (∀ W, Below wr.heap.size wr W → (W.cell? ⟨g, i, none⟩).isSome = true ∧ W.frozen? ⟨g, i, none⟩ = false ∧ OwnN (W.setCell ⟨g, i, none⟩ (.int .i64 (t : Int))) g n (fun j => if j < i + 1 then ad (r.getD j 0) (mu x (s.getD j 0)) else 0) ∧ Below w0.heap.size w0 (W.setCell ⟨g, i, none⟩ (.int .i64 (t : Int)))) := fun W b =>
        ⟨by rw [(b.cell (World.block_lt_of_cell? _ _ k1)).trans k1]; rfl, (hm.below b).frozen i, hset W b, (Below.next hB b).setCell (p := ⟨g, i, none⟩) HG.out.2 _⟩
      have p1 : Below wr.heap.size wr wr := Below.refl _ _
      clear hm hset k1 k3 hB hBB
      go_wp2_with fail
      refine wp_region_noPanic ?_
      refine wp_region_held_drew (S := fun W => W.cell? ⟨w.heap.size, 0, none⟩ = some (.int .i64 (P : Int)) ∧ W.cell? ⟨w.heap.size, 1, none⟩ = some (.int .i64 (K : Int)) ∧ W.cell? ⟨w.heap.size, 2, none⟩ = some (.slice fa fn fc) ∧ W.cell? ⟨yb, yo + i, none⟩ = some (.int .i64 (d : Int))) (by kernel_rfl) (hS.out _ p1.drew) (fun hSx => ?_)
      refine wpAnyH_take (i := 0) (v := .agg #[.int .i64 (P : Int), .int .i64 (K : Int), .slice fa fn fc]) rfl (by kernel_rfl) (by kernel_rfl) (by kernel_rfl) (fun _ _ _ h => h) (Or.inl ⟨by rfl, fun w' hSw => by (try dsimp only at hSw); obtain ⟨hs0, hs1, hs2, hs3⟩ := hSw; go_simp⟩) hSx ?_
      try simp only [Act.put, List.setIfInBounds_toArray]
      refine wpAnyH_take (i := 1) (v := .int .i64 (x : Int)) rfl (by kernel_rfl) (by kernel_rfl) (by kernel_rfl) (fun _ _ _ h => h) (Or.inl ⟨by rfl, fun w' hSw => by (try dsimp only at hSw); obtain ⟨hs0, hs1, hs2, hs3⟩ := hSw; go_simp⟩) hSx ?_
      try simp only [Act.put]
      refine wpAnyH_take (i := 2) (v := .slice (some ⟨yb, yo, none⟩) n yc) rfl (by kernel_rfl) (by kernel_rfl) (by kernel_rfl) (fun _ _ _ h => h) (Or.inl ⟨by rfl, fun w' hSw => by (try dsimp only at hSw); obtain ⟨hs0, hs1, hs2, hs3⟩ := hSw; go_simp⟩) hSx ?_
      try simp only [Act.put]
      refine wpAnyH_take (i := 3) (v := .int .i64 (i : Int)) rfl (by kernel_rfl) (by kernel_rfl) (by kernel_rfl) (fun _ _ _ h => h) (Or.inl ⟨by rfl, fun w' hSw => by (try dsimp only at hSw); obtain ⟨hs0, hs1, hs2, hs3⟩ := hSw; go_simp⟩) hSx ?_
      try simp only [Act.put]
      refine wpAnyH_take (i := 4) (v := .pointer (some ⟨yb, yo + i, none⟩)) rfl (by kernel_rfl) (by kernel_rfl) (by kernel_rfl) (fun _ _ _ h => h) (Or.inl ⟨by rfl, fun w' hSw => by (try dsimp only at hSw); obtain ⟨hs0, hs1, hs2, hs3⟩ := hSw; go_simp⟩) hSx ?_
      try simp only [Act.put]
      refine wpAnyH_take (i := 5) (v := .int .i64 (d : Int)) rfl (by kernel_rfl) (by kernel_rfl) (by kernel_rfl) (fun _ _ _ h => h) (Or.inl ⟨by rfl, fun w' hSw => by (try dsimp only at hSw); obtain ⟨hs0, hs1, hs2, hs3⟩ := hSw; go_simp⟩) hSx ?_
      try simp only [Act.put]
      refine wpAnyH_ready (rs := [6]) (by kernel_rfl) (by simp) ?_
      refine (AllReadyH.cons rfl (fun J hJ => ?_) AllReadyH.nil)
      go_simp
      refine (CM _ p1.drew).mono ?_
      rintro e w3 ⟨rfl, bv1⟩
      have p2 : Below wr.heap.size wr w3 := Below.next p1.drew bv1
      go_wp2_with fail
      refine hJ.out _ _ (hS.out _ p2) (fun hSx => ?_)
      clear hJ J
      try simp only [Act.put, List.setIfInBounds_toArray, List.set_cons_zero, List.set_cons_succ]
      refine wpAnyH_take (i := 7) (v := .tuple #[.int .i64 (m : Int), .int .i64 0]) rfl (by kernel_rfl) (by kernel_rfl) (by kernel_rfl) (fun _ _ _ h => h) (Or.inl ⟨by rfl, fun w' hSw => by (try dsimp only at hSw); obtain ⟨hs0, hs1, hs2, hs3⟩ := hSw; go_simp⟩) hSx ?_
      try simp only [Act.put, List.setIfInBounds_toArray]
      refine wpAnyH_take (i := 8) (v := .int .i64 (m : Int)) rfl (by kernel_rfl) (by kernel_rfl) (by kernel_rfl) (fun _ _ _ h => h) (Or.inl ⟨by rfl, fun w' hSw => by (try dsimp only at hSw); obtain ⟨hs0, hs1, hs2, hs3⟩ := hSw; go_simp⟩) hSx ?_
      try simp only [Act.put]
      refine wpAnyH_take (i := 9) (v := .int .i64 0) rfl (by kernel_rfl) (by kernel_rfl) (by kernel_rfl) (fun _ _ _ h => h) (Or.inl ⟨by rfl, fun w' hSw => by (try dsimp only at hSw); obtain ⟨hs0, hs1, hs2, hs3⟩ := hSw; go_simp⟩) hSx ?_
      try simp only [Act.put]
      refine wpAnyH_take (i := 10) (v := .int .i64 (m : Int)) rfl (by kernel_rfl) (by kernel_rfl) (by kernel_rfl) (fun _ _ _ h => h) (Or.inl ⟨by rfl, fun w' hSw => by (try dsimp only at hSw); obtain ⟨hs0, hs1, hs2, hs3⟩ := hSw; go_simp⟩) hSx ?_
      try simp only [Act.put]
      refine wpAnyH_take (i := 11) (v := .int .i64 0) rfl (by kernel_rfl) (by kernel_rfl) (by kernel_rfl) (fun _ _ _ h => h) (Or.inl ⟨by rfl, fun w' hSw => by (try dsimp only at hSw); obtain ⟨hs0, hs1, hs2, hs3⟩ := hSw; go_simp⟩) hSx ?_
      try simp only [Act.put]
      refine wpAnyH_done (by kernel_rfl) ?_ _
      refine NoPanic.normal ?_
      obtain ⟨y0, y1, y2, _⟩ := hS.out _ p2
      have CA2 := CA _ p2
      clear hSx hS CA CM
      go_wp2_with (go_at_call 72; refine CA2.mono ?_; rintro e w4 ⟨rfl, b4⟩; clear CA2; obtain ⟨n1, n2, n3, n4⟩ := HNext.out _ (Below.next p2 b4); obtain ⟨n0, n1⟩ := Option.isSome_iff_exists.1 n1)
      go_roundw
      case rel => exact ⟨i + 1, by go_num, by omega, n3, n4⟩
      case measure => simp [intOf]; omega
    · have hdi : decide ((i : Int) < (n : Int)) = false := by simp; omega
      obtain rfl : n = i := by omega
      have HF : Hid (OwnN wr g n (fun j => ad (r.getD j 0) (mu x (s.getD j 0)))) := by
        obtain ⟨cur, h1, h2, h3⟩ := hm
        exact ⟨cur, h1, h2, fun i hi => (h3 i hi).trans (by simp only [if_pos hi])⟩
      clear hm
      go_wp2
      go_ret
      exact ⟨g, rfl, HG.out.1, HF.out, hBB⟩
end Go.Proofs.YtjfjdidibglhaabDoor

namespace Go.Proofs.YtjfjdidibglhaabDoor
open Go.RowKit

section
variable {q n : Nat} {ad mu : Nat → Nat → Nat} {ng : Nat → Nat}
theorem spL_vc (h : FqR q ad mu ng) {R : List (List Nat)} (hR : Rws q n R) : Rws q n (spL q ad mu n R) := fun v hv => ((spn_mem h _ rfl hR v).1 hv).vc h hR
def spT (q : Nat) (ad mu : Nat → Nat → Nat) (n : Nat) (out : List (List Nat)) (r : List Nat) (j : Nat) : List (List Nat) := (out.take j).flatMap fun m => (List.range q).map fun c => adV ad n m (smV mu n c r)
theorem spT_next {out : List (List Nat)} {r m : List Nat} {j : Nat} (h : out[j]? = some m) : spT q ad mu n out r (j + 1) = spT q ad mu n out r j ++ (List.range q).map fun c => adV ad n m (smV mu n c r) := by
  unfold spT
  rw [List.take_add_one, h, Option.toList_some, List.flatMap_append]
  simp
theorem spT_full (out : List (List Nat)) (r : List Nat) : spT q ad mu n out r out.length = spK q ad mu n out r := by unfold spT spK; rw [List.take_length]
theorem spT_len (out : List (List Nat)) (r : List Nat) (j : Nat) : (spT q ad mu n out r j).length ≤ out.length * q := by
  have h : (spT q ad mu n out r j).length = (spK q ad mu n (out.take j) r).length := rfl
  rw [h, spK_len, List.length_take]
  exact Nat.mul_le_mul_right q (Nat.min_le_right _ _)
theorem range_more (f : Nat → List Nat) (c : Nat) : (List.range (c + 1)).map f = (List.range c).map f ++ [f c] := by rw [List.range_succ, List.map_append]; rfl
theorem adv_of (u s : List Nat) (x : Nat) : ofF n (fun i => ad (u.getD i 0) (mu x (s.getD i 0))) = adV ad n u (smV mu n x s) := by
  unfold adV
  unfold ofF
  refine List.map_congr_left fun i hi => ?_
  rw [smV_at _ (List.mem_range.1 hi)]
end
theorem rw_at {w : World} {a : Option Addr} {m c : Nat} {S : List (List Nat)} (h : Rw w (.slice a m c) (toZ S)) {i : Nat} (hi : i < S.length) : ∃ r b off x, S[i]? = some r ∧ a = some ⟨b, off, none⟩ ∧ w.cell? ⟨b, off + i, none⟩ = some x ∧ Sl w x (r.map Int.ofNat) ∧ ∃ xa xn xc, x = .slice xa xn xc := by
  obtain ⟨a', c', e, h⟩ := h
  obtain ⟨rfl, _, _⟩ : a = a' ∧ _ := by simp only [Value.slice.injEq] at e; exact ⟨e.1, e.2⟩
  obtain ⟨b, off, x, h1, h2, h3⟩ := h i (S[i].map Int.ofNat) (by simp [toZ, hi])
  obtain ⟨xa, xc, ex, _⟩ := id h3
  exact ⟨S[i], b, off, x, by simp, h1, h2, h3, xa, _, xc, ex⟩
theorem newsR (w : World) (u : Value) (t : TypeId) : ∀ j v, [u][j]? = some v → (w.alloc (.cells #[u] t)).cell? ((⟨w.heap.size, 0, none⟩ : Addr).add j) = some v := fun j v hj => by
  match j, hj with
  | 0, hj =>
    simp only [List.getElem?_cons_zero, Option.some.injEq] at hj
    subst hj
    rw [Addr.add_mid, cell_of_row _ _ _ _ _ _ (heap_alloc_new w _)]
    rfl

theorem orow_low {w : World} {b b' : Nat} {u : Value} {l : List Nat} (h : ORow w b' u l) (hb : b ≤ b') : ORow w b u l := by
  obtain ⟨h1, h2 | ⟨g, cap, cur, h3, h4, h5⟩⟩ := h
  · exact ⟨h1, .inl h2⟩
  · exact ⟨h1, .inr ⟨g, cap, cur, h3, Nat.le_trans hb h4, h5⟩⟩
set_option maxRecDepth 100000 in
set_option maxHeartbeats 8000000 in
theorem spanned_any (P K n q : Nat) (l : List Int) (R : List (List Nat)) (v u : Value) (w : World) (hF : Fld P K l v w) (hq : Hid (P ^ K = q)) (hu : Rw w u (toZ R)) (hR : Rws (P ^ K) n R) (h1 : 1 ≤ n) (hn : n ≤ 6) (hm : R.length ≤ 6) (hk : (P ^ K) ^ R.length ≤ 128) :
    Calls Tryd.prog 19 #[.agg #[.int .i64 (P : Int), .int .i64 (K : Int), v], .int .i64 (q : Int), .int .i64 (n : Int), u] w fun e w' => ∃ x, e = .returned x ∧ Rw w' x (toZ (spL (P ^ K) (adF P K) (muF P K l) n R)) ∧ Below w.heap.size w w' := by
  have hfq := hF.fqr
  have hbx := balloc w (.cells #[.int .i64 (P : Int), .int .i64 (K : Int), v] 24)
  have HX := fl_box (P : Int) (K : Int) v w
  obtain ⟨i3, hi3, hz0, hz1, hz2⟩ := info36
  have HI : Hid (Tryd.prog.info? 22 = some i3 ∧ i3.zero = some (.slice none 0 0) ∧ i3.size = 1 ∧ i3.bytes = 24) := ⟨hi3, hz0, hz1, hz2⟩
  clear hi3 hz0 hz1 hz2
  have hq64 : q ≤ 64 := by rw [← hq.out]; exact hF.good.le64
  have HAdd : Hid (∀ W, Below w.heap.size w W → ∀ (r s : List Nat) (x : Nat) (a b : Value), Sl W a (r.map Int.ofNat) → Vc (P ^ K) n r → Sl W b (s.map Int.ofNat) → Vc (P ^ K) n s → x < P ^ K → Calls Tryd.prog 41 #[.agg #[.int .i64 (P : Int), .int .i64 (K : Int), v], a, .int .i64 (x : Int), b] W fun e w' => ∃ g, e = .returned (.slice (some ⟨g, 0, none⟩) n n) ∧ W.heap.size ≤ g ∧ ORow w' W.heap.size (.slice (some ⟨g, 0, none⟩) n n) (adV (adF P K) n r (smV (muF P K l) n x s)) ∧ Below W.heap.size W w') := fun W bW r s x a b ha hr hb hs hx => by
    refine (addR_any P K n x l r s v a b W (hF.below bW) ha hr hb hs hx h1 hn).mono ?_
    rintro e w' ⟨g, rfl, hg, ho, b'⟩
    refine ⟨g, rfl, hg, ?_, b'⟩
    have := ho.orow hg (by omega)
    rwa [adv_of] at this
  have HSp : Hid (∀ i, i ≤ R.length → Rws (P ^ K) n (spL (P ^ K) (adF P K) (muF P K l) n (R.take i)) ∧ (spL (P ^ K) (adF P K) (muF P K l) n (R.take i)).length ≤ 128) := fun i hi => by
    refine ⟨spL_vc hfq fun r hr => hR r (List.mem_of_mem_take hr), ?_⟩
    rw [spL_len i (R.take i) (by rw [List.length_take]; omega)]
    exact Nat.le_trans (Nat.pow_le_pow_right hfq.pos hi) hk
  have HNx : Hid (∀ i r, R[i]? = some r → spL (P ^ K) (adF P K) (muF P K l) n (R.take (i + 1)) = spK (P ^ K) (adF P K) (muF P K l) n (spL (P ^ K) (adF P K) (muF P K l) n (R.take i)) r) := fun i r hr => by
    rw [List.take_add_one, hr, Option.toList_some, spL_snoc]
  have HSt : Hid (spL (P ^ K) (adF P K) (muF P K l) n (R.take 0) = [zV n]) := rfl
  have HRF : Hid (R.take R.length = R) := List.take_length
  obtain ⟨ad, Had⟩ : ∃ ad, Hid (adF P K = ad) := ⟨_, rfl⟩
  obtain ⟨mu, Hmu⟩ : ∃ mu, Hid (muF P K l = mu) := ⟨_, rfl⟩
  rw [Had.out, Hmu.out] at HAdd HSp HNx HSt ⊢
  rw [hq.out] at HAdd HSp HNx HSt hR hk ⊢
  have HRr : Hid (Rws q n R) := hR
  have HU : Hid (∀ W, Below w.heap.size w W → Rw W u (toZ R)) := fun W b => hu.below b
  obtain ⟨ua, uc, rfl⟩ := rw_form hu
  obtain ⟨fa, fn, fc, rfl⟩ : ∃ fa fn fc, v = .slice fa fn fc := by obtain ⟨a, c, e, _⟩ := hF.sl; exact ⟨a, _, c, e⟩
  obtain ⟨m, Hm⟩ : ∃ m, Hid (R.length = m) := ⟨_, rfl⟩
  rw [Hm.out] at hm HSp HU HRF ⊢
  have hmk := run_makeN n (by omega)
  have hs0 : (w.alloc (.cells #[.int .i64 (P : Int), .int .i64 (K : Int), .slice fa fn fc] 24)).heap.size = w.heap.size + 1 := by simp
  obtain ⟨w0, Hw0⟩ : ∃ w0, Hid (w.alloc (.cells #[.int .i64 (P : Int), .int .i64 (K : Int), .slice fa fn fc] 24) = w0) := ⟨_, rfl⟩
  rw [Hw0.out] at hs0
  have HX2 : Hid (∀ W, Below w0.heap.size w0 W → (W.cell? ⟨w.heap.size, 0, none⟩ = some (.int .i64 (P : Int)) ∧ W.cell? ⟨w.heap.size, 1, none⟩ = some (.int .i64 (K : Int)) ∧ W.cell? ⟨w.heap.size, 2, none⟩ = some (.slice fa fn fc))) := by rw [← Hw0.out]; exact HX
  have HB0 : Hid (Below w.heap.size w w0) := by rw [← Hw0.out]; exact hbx
  have hz := (((own_new w0 n).orow (base := 0) (Nat.zero_le _) (by omega)).sl)
  have hrz := sl_rw hz
  have hs1 : (w0.alloc (.cells (madeCells #[.int .i64 0] n) 3)).heap.size = w0.heap.size + 1 := by simp
  rw [hs1, hs0] at hrz
  have hb2 := Below.next (balloc w0 (.cells (madeCells #[.int .i64 0] n) 3)) (balloc _ (.cells #[.slice (some ⟨w0.heap.size, 0, none⟩) n n] 22))
  rw [hs0] at hb2
  have hrz2 : Rw ((w0.alloc (.cells (madeCells #[.int .i64 0] n) 3)).alloc (.cells #[.slice (some ⟨w.heap.size + 1, 0, none⟩) n n] 22)) (.slice (some ⟨w.heap.size + 1 + 1, 0, none⟩) 1 1) (toZ [zV n]) := hrz
  have HST : Hid (Rw ((w0.alloc (.cells (madeCells #[.int .i64 0] n) 3)).alloc (.cells #[.slice (some ⟨w.heap.size + 1, 0, none⟩) n n] 22)) (.slice (some ⟨w.heap.size + 1 + 1, 0, none⟩) 1 1) (toZ (spL q ad mu n (R.take 0))) ∧ Below w0.heap.size w0 ((w0.alloc (.cells (madeCells #[.int .i64 0] n) 3)).alloc (.cells #[.slice (some ⟨w.heap.size + 1, 0, none⟩) n n] 22))) := ⟨hrz2, by rw [hs0]; exact hb2⟩
  have Hs0 : Hid (w0.heap.size = w.heap.size + 1) := hs0
  clear hF HX hfq hu hbx hz hrz hrz2 hb2 hs0 hs1 hR
  go_enter Tryd.func19, Tryd.ntmps19
  go_wp2_with fail
  rw [Hw0.out]
  obtain ⟨ws, Hws⟩ : ∃ ws, Hid ((w0.alloc (.cells (madeCells #[.int .i64 0] n) 3)).alloc (.cells #[.slice (some ⟨w.heap.size + 1, 0, none⟩) n n] 22) = ws) := ⟨_, rfl⟩
  rw [Hws.out] at HST ⊢
  go_loopw [9, 21] (fun ov iv wr => ∃ i : Nat, iv = .int .i64 (i : Int) ∧ i ≤ m ∧ Hid (Rw wr ov (toZ (spL q ad mu n (R.take i)))) ∧ Below w0.heap.size w0 wr) (fun _ iv _ => (m - intOf iv).toNat)
  case atStart => exact ⟨0, rfl, by omega, HST.out.1, HST.out.2⟩
  case round =>
    clear HST hmk
    obtain ⟨i, rfl, hi, HO, hB⟩ := hrel
    have hBB := Below.next HB0.out hB
    by_cases hlt : i < m
    · have hii : (i : Int) < (m : Int) := by omega
      have hdi : decide ((i : Int) < (m : Int)) = true := by simp; omega
      obtain ⟨r, b, off, rx, hri, rfl, hcr, hSr, ra, rn, rc, rfl⟩ := rw_at (HU.out wr hBB) (i := i) (by rw [Hm.out]; exact hlt)
      have HVr : Hid (Vc q n r) := HRr.out r (List.mem_of_getElem? hri)
      have HNx2 : Hid _ := HNx.out i r hri
      obtain ⟨hOr, hOl⟩ := HSp.out i hi
      obtain ⟨out, Hout⟩ : ∃ out, Hid (spL q ad mu n (R.take i) = out) := ⟨_, rfl⟩
      rw [Hout.out] at HO HNx2 hOr hOl
      obtain ⟨oa, oc, eo⟩ := rw_form HO.out
      subst eo
      have HOr : Hid (Rws q n out) := hOr
      have HSr : Hid (∀ W, Below wr.heap.size wr W → Sl W (.slice ra rn rc) (r.map Int.ofNat)) := fun W bW => hSr.below bW
      obtain ⟨o, Ho⟩ : ∃ o, Hid (out.length = o) := ⟨_, rfl⟩
      have HTf : Hid (spT q ad mu n out r o = spK q ad mu n out r) := by rw [← Ho.out]; exact spT_full out r
      have HTl : Hid (∀ j, (spT q ad mu n out r j).length ≤ 128 * 64) := fun j => Nat.le_trans (spT_len out r j) (Nat.mul_le_mul hOl hq64)
      have HT0 : Hid (spT q ad mu n out r 0 = []) := rfl
      rw [Ho.out] at HO hOl ⊢
      clear hOr hSr hri
      obtain ⟨wx, hwx⟩ : ∃ wx, wx = wr := ⟨_, rfl⟩
      subst hwx
      go_wp2_with fail
      have HBx : Hid (∀ W, Below wx.heap.size wx W → Below w0.heap.size w0 W) := fun W bW => Below.next hB bW
      have HOx : Hid (∀ W, Below wx.heap.size wx W → Rw W (.slice oa o oc) (toZ out)) := fun W bW => HO.out.below bW
      have Hsx : Hid (w.heap.size < wx.heap.size) := by have h1 := hB.size; have h2 := Hs0.out; show _ < _; omega
      go_loopw [12, 27] (fun mv jv wt => ∃ j : Nat, jv = .int .i64 (j : Int) ∧ j ≤ o ∧ Hid (OR wt wx.heap.size mv (spT q ad mu n out r j)) ∧ Below wx.heap.size wx wt) (fun _ jv _ => (o - intOf jv).toNat)
      case atStart => exact ⟨0, rfl, by omega, OR.nil _ _, Below.refl _ _⟩
      case round =>
        clear hcr hB hBB HO
        obtain ⟨j, rfl, hj, HM, hC⟩ := hrel
        by_cases hjo : j < o
        · have hji : (j : Int) < (o : Int) := by omega
          have hdj : decide ((j : Int) < (o : Int)) = true := by simp; omega
          obtain ⟨d, b2, off2, dx, hdi2, rfl, hcd0, hSd, da, dn, dc, rfl⟩ := rw_at (HOx.out wx (Below.refl _ _)) (i := j) (by rw [Ho.out]; exact hjo)
          have hcd := (hC.cell (World.block_lt_of_cell? _ _ hcd0)).trans hcd0
          have HSd : Hid (∀ W, Below wx.heap.size wx W → Sl W (.slice da dn dc) (d.map Int.ofNat)) := fun W bW => hSd.below bW
          have HVd : Hid (Vc q n d) := HOr.out d (List.mem_of_getElem? hdi2)
          have HTn : Hid _ := spT_next (q := q) (ad := ad) (mu := mu) (n := n) (r := r) hdi2
          have hTl := HTl.out j
          obtain ⟨pre, Hpre⟩ : ∃ pre, Hid (spT q ad mu n out r j = pre) := ⟨_, rfl⟩
          rw [Hpre.out] at HM HTn hTl
          have HTl2 : Hid (∀ c, c ≤ q → (pre ++ (List.range c).map fun c => adV ad n d (smV mu n c r)).length ≤ 9999) := fun c hc => by rw [List.length_append, List.length_map, List.length_range]; omega
          have HM0 : Hid (OR wr wx.heap.size u12 (pre ++ (List.range 0).map fun c => adV ad n d (smV mu n c r))) := by show OR _ _ _ _; rw [List.range_zero, List.map_nil, List.append_nil]; exact HM.out
          obtain ⟨wy, hwy⟩ : ∃ wy, wy = wr := ⟨_, rfl⟩
          subst hwy
          have HCy : Hid (Below wx.heap.size wx wy) := hC
          clear hSd hdi2 HM hTl hC hcd0
          go_wp2_with fail
          go_loopw [12, 32] (fun mv cv wt => ∃ c : Nat, cv = .int .i64 (c : Int) ∧ c ≤ q ∧ Hid (OR wt wx.heap.size mv (pre ++ (List.range c).map fun c => adV ad n d (smV mu n c r))) ∧ Below wx.heap.size wx wt) (fun _ cv _ => (q - intOf cv).toNat)
          case atStart => exact ⟨0, rfl, by omega, HM0, HCy.out⟩
          case round =>
            clear HM0 hcd
            obtain ⟨c, rfl, hc, HM, hC⟩ := hrel
            have hBB := Below.next HB0.out (HBx.out _ hC)
            have hsz := hC.size
            have hsx := Hsx.out
            by_cases hcq : c < q
            · have hci : (c : Int) < (q : Int) := by omega
              have hdc : decide ((c : Int) < (q : Int)) = true := by simp; omega
              have hTl := HTl2.out c hc
              have HTm : Hid _ := range_more (fun c => adV ad n d (smV mu n c r)) c
              obtain ⟨Ls, HLs⟩ : ∃ Ls, Hid ((pre ++ (List.range c).map fun c => adV ad n d (smV mu n c r)) = Ls) := ⟨_, rfl⟩
              have HNx3 : Hid ((pre ++ (List.range (c + 1)).map fun c => adV ad n d (smV mu n c r)) = Ls ++ [adV ad n d (smV mu n c r)]) := by show _ = _; rw [HTm.out, ← List.append_assoc, HLs.out]
              rw [HLs.out] at HM hTl
              have CA := HAdd.out _ hBB d r c _ _ (HSd.out _ hC) HVd.out (HSr.out _ hC) HVr.out hcq
              obtain ⟨el, Hel⟩ : ∃ el, Hid (adV ad n d (smV mu n c r) = el) := ⟨_, rfl⟩
              rw [Hel.out] at CA HNx3
              obtain ⟨t, Ht⟩ : ∃ t, Hid (Ls.length = t) := ⟨_, rfl⟩
              have HOW : Hid (∀ W, Below wr.heap.size wr W → ∃ vals : List Value, W.ownsRow wx.heap.size 22 1 u12 t vals ∧ ∀ (j : Nat) (u : Value) (m : List Nat), vals[j]? = some u → Ls[j]? = some m → ORow W wx.heap.size u m) := fun W bW => by
                obtain ⟨vals, h1, h2⟩ := HM.out.below bW
                rw [Ht.out] at h1
                exact ⟨vals, h1, h2⟩
              obtain ⟨ma, mc, em⟩ := HM.out.cap
              rw [Ht.out] at em hTl
              subst em
              have hi3 := HI.out.1
              have hz0 := HI.out.2.1
              have hz1 := HI.out.2.2.1
              have hz2 := HI.out.2.2.2
              obtain ⟨y0, y1, y2⟩ := HX2.out _ (HBx.out _ hC)
              clear HM
              go_wp2_with (first
                | (go_at_call 41; refine CA.mono ?_; rintro e2 w2 ⟨g, rfl, hg, hy, b2'⟩; clear CA; obtain ⟨vals, hv1, hv2⟩ := HOW.out w2 b2'; have hs2 := b2'.size)
                | (at_builtin; refine wpList_append_own _ rfl _ _ 25 rfl wx.heap.size 22 i3 (.slice none 0 0) 1 24 undR hi3 hz0 hz1 hz2 rfl (by decide) _ _ _ rfl (hv1.alloc _) ⟨w2.heap.size, 0, none⟩ 1 1 [.slice (some ⟨g, 0, none⟩) n n] rfl rfl (newsR w2 _ _) (fun u hu => by (simp at hu; subst hu; rfl)) (by (unfold maxLen; omega)) (by omega) (by (simp; omega)) ?_; intro v' w3 hown' hgrow _)
                | go_in)
              have hal := balloc w2 (.cells #[.slice (some ⟨g, 0, none⟩) n n] 22)
              have hB3 : Below wx.heap.size wx w3 := ((Below.next hC b2').alloc (by omega) _).grown hgrow (by simp; omega) (fun k hk => (hv1.lt k hk).1)
              have hO3 : OR w3 wx.heap.size v' (Ls ++ [el]) := OR.more (own_keep (by rw [Ht.out]; exact hv1) fun b _ hb => hal.block b hb) (fun j u m e1 e2 => (hv2 j u m e1 e2).below hal) ((orow_low hy hsz).below hal) (by rw [Ht.out]; exact hown') hgrow
              clear hown' hgrow hv1 hv2
              go_roundw
              case rel => exact ⟨c + 1, by go_num, by omega, by rw [HNx3.out]; exact hO3, hB3⟩
              case measure => simp [intOf]; omega
            · have hdc : decide ((c : Int) < (q : Int)) = false := by simp; omega
              obtain rfl : q = c := by omega
              rw [← HTn.out] at HM
              go_wp2
              go_roundw
              case rel => exact ⟨j + 1, by go_num, by omega, HM, hC⟩
              case measure => simp [intOf]; omega
        · have hdj : decide ((j : Int) < (o : Int)) = false := by simp; omega
          obtain rfl : o = j := by omega
          have HR2 : Hid (Rw wr u12 (toZ (spL q ad mu n (R.take (i + 1))))) := by
            show Rw _ _ _
            rw [HNx2.out, ← HTf.out]
            exact HM.out.rw
          have hB2 := HBx.out _ hC
          go_wp2
          go_roundw
          case rel => exact ⟨i + 1, by go_num, by omega, HR2, hB2⟩
          case measure => simp [intOf]; omega
    · have hdi : decide ((i : Int) < (m : Int)) = false := by simp; omega
      obtain rfl : m = i := by omega
      rw [HRF.out] at HO
      go_wp2
      go_ret
      exact ⟨_, rfl, HO.out, hBB⟩
end Go.Proofs.YtjfjdidibglhaabDoor
