/- A design that passes; numbers of lists; nothing of the program. -/
import Derived.Test.YtjfjdidibglhaaaDFa
import Derived.Test.YtjfjdidibglhaaaDN
import Derived.Test.YtjfjdidibglhaaaDPure
namespace Go.Proofs.Ytjfjdidibglhaaa

structure GoodD (v : Nat) (B : List (List Nat)) : Prop where
  pos : 1 ≤ v
  le : v ≤ 40
  few : B.length ≤ 200
  rs : ∀ b ∈ B, Rs v 0 b
theorem GoodD.bls {v : Nat} {B : List (List Nat)} (h : GoodD v B) : Bls v B := fun b hb => rise_pts (rs_iff.1 (h.rs b hb)).1 fun x hx => ((rs_iff.1 (h.rs b hb)).2 x hx).2
theorem GoodD.len {v : Nat} {B : List (List Nat)} (h : GoodD v B) {b : List Nat} (hb : b ∈ B) : b.length ≤ 40 := Nat.le_trans (h.bls b hb).le h.le
def toZ (B : List (List Nat)) : List (List Int) := B.map fun b => b.map Int.ofNat
theorem bF_zero {p : Int} {b : List Int} (h : bF p b = 0) : (∀ j, j < b.length → 0 ≤ b.getD j 0 ∧ b.getD j 0 < p) ∧ ∀ j, 1 ≤ j → j < b.length → b.getD (j - 1) 0 < b.getD j 0 := by
  have h1 : ∀ j, j < b.length → 0 ≤ b.getD j 0 ∧ b.getD j 0 < p := fun j hj => Classical.byContradiction fun hn => by
    have := bF_out hj hn
    omega
  refine ⟨h1, fun j hj1 hj => Classical.byContradiction fun hn => ?_⟩
  have := bF_fall h1 hj1 hj (by omega)
  omega
theorem blF_zero {p : Int} : ∀ {ls : List (List Int)}, blF p ls = 0 → ∀ b ∈ ls, bF p b = 0
  | [], _, b, hb => by simp at hb
  | c :: ls, h, b, hb => by
    unfold blF at h
    split at h
    · rename_i hn; exact (hn h).elim
    · rename_i hn
      rcases List.mem_cons.1 hb with rfl | hb
      · omega
      · exact blF_zero h b hb
theorem toNat_rs {v : Nat} : ∀ {b : List Int} {lo : Nat}, (∀ j, j < b.length → (lo : Int) ≤ b.getD j 0 ∧ b.getD j 0 < v) → (∀ j, 1 ≤ j → j < b.length → b.getD (j - 1) 0 < b.getD j 0) → Rs v lo (b.map Int.toNat) ∧ (b.map Int.toNat).map Int.ofNat = b
  | [], _, _, _ => ⟨trivial, rfl⟩
  | x :: b, lo, h1, h2 => by
    have hx := h1 0 (by simp)
    rw [List.getD_cons_zero] at hx
    have ht : ((x.toNat : Nat) : Int) = x := by omega
    have key : ∀ j, j < b.length → x < b.getD j 0 := by
      intro j
      induction j with
      | zero => intro hj; have := h2 1 (by omega) (by simpa using hj); simpa using this
      | succ j ih =>
        intro hj
        have a := ih (by omega)
        have c := h2 (j + 2) (by omega) (by rw [List.length_cons]; omega)
        rw [show j + 2 - 1 = j + 1 by omega, List.getD_cons_succ, List.getD_cons_succ] at c
        omega
    obtain ⟨r1, r2⟩ := toNat_rs (b := b) (lo := x.toNat + 1) (fun j hj => by
      have a := key j hj
      have c := h1 (j + 1) (by rw [List.length_cons]; omega)
      simp only [List.getD_cons_succ] at c
      exact ⟨by omega, c.2⟩) (fun j hj1 hj => by
      have c := h2 (j + 1) (by omega) (by simpa using hj)
      obtain ⟨j', rfl⟩ : ∃ j', j = j' + 1 := ⟨j - 1, by omega⟩
      rw [show j' + 1 + 1 - 1 = j' + 1 by omega, List.getD_cons_succ, List.getD_cons_succ] at c
      rw [show j' + 1 - 1 = j' by omega]
      exact c)
    refine ⟨⟨by omega, by omega, r1⟩, ?_⟩
    rw [List.map_cons, List.map_cons, r2]
    show Int.ofNat x.toNat :: b = x :: b
    rw [show Int.ofNat x.toNat = x from ht]
theorem dF_ok {p : Int} {ls : List (List Int)} (h : dF p ls = 0) : ∃ v B, p = ((v : Nat) : Int) ∧ ls = toZ B ∧ GoodD v B := by
  unfold dF at h
  split at h
  · cases h
  · rename_i h1
    split at h
    · cases h
    · rename_i h2
      obtain ⟨v, rfl⟩ : ∃ v : Nat, p = v := ⟨p.toNat, by omega⟩
      have hb := blF_zero h
      refine ⟨v, ls.map fun b => b.map Int.toNat, rfl, ?_, by omega, by omega, by simpa using (by omega : ls.length ≤ 200), fun b hbm => ?_⟩
      · unfold toZ
        rw [List.map_map]
        have : ls.map (fun b => (b.map Int.toNat).map Int.ofNat) = ls.map id := List.map_congr_left fun b hbm => by
          obtain ⟨a, c⟩ := bF_zero (hb b hbm)
          exact (toNat_rs (lo := 0) (fun j hj => by have := a j hj; omega) c).2
        rw [List.map_id] at this
        exact this.symm
      · obtain ⟨c, hc, rfl⟩ := List.mem_map.1 hbm
        obtain ⟨a, d⟩ := bF_zero (hb c hc)
        exact (toNat_rs (lo := 0) (fun j hj => by have := a j hj; omega) d).1
/-- A list's number: who is ahead has the lesser one. -/
def vlN : List Nat → Nat
  | [] => 0
  | x :: s => x * 41 ^ s.length + vlN s
theorem vlN_lt : ∀ {s : List Nat}, (∀ x ∈ s, x < 41) → vlN s < 41 ^ s.length
  | [], _ => by simp [vlN]
  | x :: s, h => by
    have h1 := vlN_lt (s := s) fun y hy => h y (List.mem_cons_of_mem _ hy)
    have h2 := h x List.mem_cons_self
    unfold vlN
    rw [List.length_cons, Nat.pow_succ]
    have : (x + 1) * 41 ^ s.length ≤ 41 * 41 ^ s.length := Nat.mul_le_mul_right _ h2
    rw [Nat.add_mul] at this
    rw [Nat.mul_comm (41 ^ s.length) 41]
    omega
theorem vlN_llt : ∀ {s t : List Nat}, (∀ x ∈ s, x < 41) → (∀ x ∈ t, x < 41) → s.length = t.length → llt s t → vlN s < vlN t
  | [], _, _, _, _, h => by cases h
  | _ :: _, [], _, _, hl, _ => by simp at hl
  | x :: s, y :: t, h1, h2, hl, h => by
    have hl' : s.length = t.length := by simpa using hl
    have b1 := vlN_lt (s := s) fun z hz => h1 z (List.mem_cons_of_mem _ hz)
    unfold vlN
    rcases h with h | ⟨rfl, h⟩
    · have : (x + 1) * 41 ^ s.length ≤ y * 41 ^ s.length := Nat.mul_le_mul_right _ h
      rw [Nat.add_mul] at this
      rw [← hl']
      omega
    · have := vlN_llt (fun z hz => h1 z (List.mem_cons_of_mem _ hz)) (fun z hz => h2 z (List.mem_cons_of_mem _ hz)) hl' h
      rw [hl']
      omega
end Go.Proofs.Ytjfjdidibglhaaa
