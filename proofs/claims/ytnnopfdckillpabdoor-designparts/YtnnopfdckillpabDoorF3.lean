/- The walk of Meets, and the law DesignMeets. -/
import Derived.Test.YtnnopfdckillpabDoorF2
import Derived.Test.YtnnopfdckillpabDoorE9
import Derived.Test.YtnnopfdckillpabDoorLL
import Derived.Test.YtnnopfdckillpabDoorP14
namespace Go.Proofs.YtnnopfdckillpabDoor
open Go.RowKit

theorem pc_mt {v : Nat} {b c : List Nat} (hb : b.Pairwise (· < ·)) (hbv : ∀ x ∈ b, x < v) (_hcv : ∀ x ∈ c, x < v) (hv : v ≤ 64) : pc (sb b &&& sb c) = mt b c := by
  have h1 : sb b < 2 ^ 64 := sb_lt fun x hx => by have := hbv x hx; omega
  have e : pts (sb b &&& sb c) = b.filter fun x => c.contains x := by
    refine pts_ext (hb.filter _) (Nat.lt_of_le_of_lt Nat.and_le_left h1) fun i => ?_
    rw [Nat.testBit_and, sb_bit, sb_bit, List.mem_filter, Bool.and_eq_true, List.contains_iff_mem]
  unfold pc mt
  rw [e, List.countP_eq_length_filter]
theorem getD_map (B : List (List Nat)) {i : Nat} (hi : i < B.length) : (B.map sb).getD i 0 = sb (B.getD i []) := by
  rw [List.getD_eq_getElem?_getD, List.getD_eq_getElem?_getD, List.getElem?_map, List.getElem?_eq_getElem hi]
  rfl
theorem getD_memB {B : List (List Nat)} {i : Nat} (hi : i < B.length) : B.getD i [] ∈ B := by
  rw [List.getD_eq_getElem?_getD, List.getElem?_eq_getElem hi]; exact List.getElem_mem hi
theorem meet_is {v acc : Nat} {B : List (List Nat)} (G : GoodD v B) (hacc : acc < 2 ^ 41) (h : SnM (B.map sb) (B.map sb).length 0 acc) : pts acc = mtL v B := by
  have h40 := G.le
  unfold mtL
  refine pts_ext (List.pairwise_lt_range.filter _) (by omega) fun n => ?_
  rw [h n, List.mem_filter, List.mem_range, metB_iff, List.length_map]
  have key : ∀ i j, j < i → i < B.length → pc ((B.map sb).getD i 0 &&& (B.map sb).getD j 0) = mt (B.getD i []) (B.getD j []) := fun i j h1 h2 => by
    rw [getD_map B h2, getD_map B (by omega)]
    have r1 := rs_iff.1 (G.rs _ (getD_memB h2))
    have r2 := rs_iff.1 (G.rs _ (getD_memB (show j < B.length by omega)))
    exact pc_mt r1.1 (fun x hx => (r1.2 x hx).2) (fun x hx => (r2.2 x hx).2) (by omega)
  constructor
  · rintro ⟨i, j, h1, h2 | h2, h3⟩
    · rw [key i j h1 h2] at h3
      refine ⟨?_, i, j, h1, h2, h3⟩
      have : mt (B.getD i []) (B.getD j []) ≤ (B.getD i []).length := List.countP_le_length
      have := (G.bls _ (getD_memB h2)).le
      omega
    · omega
  · rintro ⟨_, i, j, h1, h2, h3⟩
    exact ⟨i, j, h1, .inl h2, by rw [key i j h1 h2]; exact h3⟩
theorem good_sb40 {v : Nat} {B : List (List Nat)} (G : GoodD v B) : ∀ x ∈ B.map sb, x < 2 ^ 40 := fun x hx => by
  obtain ⟨b, hb, rfl⟩ := List.mem_map.1 hx
  have h40 := G.le
  exact sb_lt fun y hy => by have := (G.bls b hb).lt y hy; omega

end Go.Proofs.YtnnopfdckillpabDoor
