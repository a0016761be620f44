/- The walk of Meets, and the law DesignMeets. -/
import Derived.Test.YtgpkhfpejopacaaDoorF2
import Derived.Test.YtgpkhfpejopacaaDoorE9
import Derived.Test.YtgpkhfpejopacaaDoorLL
import Derived.Test.YtgpkhfpejopacaaDoorP14
namespace Go.Proofs.YtgpkhfpejopacaaDoor
open Go.RowKit

theorem pc_mt {v : Nat} {b c : List Nat} (hb : b.Pairwise (· < ·)) (hbv : ∀ x ∈ b, x < v) (_hcv : ∀ x ∈ c, x < v) (hv : v ≤ 64) : pc (sb b &&& sb c) = mt b c := by
  have h1 : sb b < 2 ^ 64 := sb_lt fun x hx => by have := hbv x hx; omega
  have e : pts (sb b &&& sb c) = b.filter fun x => c.contains x := by
    refine pts_ext (hb.filter _) (Nat.lt_of_le_of_lt Nat.and_le_left h1) fun i => ?_
    rw [Nat.testBit_and, sb_bit, sb_bit, List.mem_filter, Bool.and_eq_true, List.contains_iff_mem]
  unfold pc mt
  rw [e, List.countP_eq_length_filter]
theorem getD_map (B : List (List Nat)) {i : Nat} (hi : i < B.length) : (B.map sb).getD i 0 = sb (B.getD i []) := by
  rw [List.getD_eq_getElem?_getD, List.getD_eq_getElem?_getD, List.getElem?_map, List.getElem?_eq_getElem hi]
  rfl
theorem getD_memB {B : List (List Nat)} {i : Nat} (hi : i < B.length) : B.getD i [] ∈ B := by
  rw [List.getD_eq_getElem?_getD, List.getElem?_eq_getElem hi]; exact List.getElem_mem hi
theorem meet_is {v acc : Nat} {B : List (List Nat)} (G : GoodD v B) (hacc : acc < 2 ^ 41) (h : SnM (B.map sb) (B.map sb).length 0 acc) : pts acc = mtL v B := by
  have h40 := G.le
  unfold mtL
  refine pts_ext (List.pairwise_lt_range.filter _) (by omega) fun n => ?_
  rw [h n, List.mem_filter, List.mem_range, metB_iff, List.length_map]
  have key : ∀ i j, j < i → i < B.length → pc ((B.map sb).getD i 0 &&& (B.map sb).getD j 0) = mt (B.getD i []) (B.getD j []) := fun i j h1 h2 => by
    rw [getD_map B h2, getD_map B (by omega)]
    have r1 := rs_iff.1 (G.rs _ (getD_memB h2))
    have r2 := rs_iff.1 (G.rs _ (getD_memB (show j < B.length by omega)))
    exact pc_mt r1.1 (fun x hx => (r1.2 x hx).2) (fun x hx => (r2.2 x hx).2) (by omega)
  constructor
  · rintro ⟨i, j, h1, h2 | h2, h3⟩
    · rw [key i j h1 h2] at h3
      refine ⟨?_, i, j, h1, h2, h3⟩
      have : mt (B.getD i []) (B.getD j []) ≤ (B.getD i []).length := List.countP_le_length
      have := (G.bls _ (getD_memB h2)).le
      omega
    · omega
  · rintro ⟨_, i, j, h1, h2, h3⟩
    exact ⟨i, j, h1, .inl h2, by rw [key i j h1 h2]; exact h3⟩
theorem good_sb40 {v : Nat} {B : List (List Nat)} (G : GoodD v B) : ∀ x ∈ B.map sb, x < 2 ^ 40 := fun x hx => by
  obtain ⟨b, hb, rfl⟩ := List.mem_map.1 hx
  have h40 := G.le
  exact sb_lt fun y hy => by have := (G.bls b hb).lt y hy; omega

set_option maxRecDepth 100000 in
set_option maxHeartbeats 4000000 in
theorem Meets_bad (p : Int) (ls : List (List Int)) (v : Value) (w : World) (hv : Rw w v ls) (hl : ls.length ≤ maxLen) (hll : ∀ l ∈ ls, l.length ≤ maxLen) (hz : dF p ls ≠ 0) :
    Calls Tryd.prog 66 #[.agg #[.int .i64 p, v]] w fun e w' => e = .returned (.tuple #[.slice none 0 0, .int .i64 (dF p ls : Int)]) ∧ Below w.heap.size w w' := by
  obtain ⟨x0, x1⟩ := lv_box p v w
  have b0 := balloc w (.cells #[.int .i64 p, v] 29)
  have C1 := open_any p ls v _ (hv.below b0) hl hll
  generalize dF p ls = z at *
  have hd : ((z : Int) != 0) = true := by simp; omega
  clear hv hl hll
  go_enter Tryd.func66, Tryd.ntmps66
  go_wp2_with (go_at_call 49; refine C1.mono ?_; rintro e w3 ⟨⟨x, rfl, _, _⟩, hb3⟩; clear C1)
  exact bodyPost_ret (v := .tuple #[.slice none 0 0, .int .i64 (z : Int)]) (by simp [results, Tryd.results66, go_sem]) rfl ⟨rfl, Below.next b0 hb3⟩

set_option maxRecDepth 100000 in
set_option maxHeartbeats 4000000 in
theorem Meets_good (v : Nat) (B : List (List Nat)) (u : Value) (w : World) (hT : Tab w) (G : GoodD v B) (hu : Rw w u (toZ B)) :
    Calls Tryd.prog 66 #[.agg #[.int .i64 (v : Int), u]] w fun e w' => ∃ x, e = .returned (.tuple #[x, .int .i64 0]) ∧ w'.ownsRow w.heap.size 3 1 x (mtL v B).length (((mtL v B).map Int.ofNat).map (Value.int .i64)) ∧ Below w.heap.size w w' := by
  obtain ⟨x0, x1⟩ := lv_box v u w
  have b0 := balloc w (.cells #[.int .i64 (v : Int), u] 29)
  have C1 := open_good v B u _ G (hu.below b0)
  have HM : Hid (∀ (x : Value) (W : World), Tab W → SC W x (B.map sb) → Calls Tryd.prog 87 #[x] W fun e w' => ∃ (y : Value), e = .returned y ∧ w'.ownsRow W.heap.size 3 1 y (mtL v B).length (((mtL v B).map Int.ofNat).map (Value.int .i64)) ∧ Below W.heap.size W w') := fun x W hT hx => by
    refine (meets_any (B.map sb) x W hT hx (by rw [List.length_map]; exact G.few) (good_sb40 G)).mono ?_
    rintro e w' ⟨y, acc, rfl, h1, h2, h3, h4⟩
    rw [meet_is G h1 h2] at h3
    exact ⟨y, rfl, h3, h4⟩
  have hT0 := hT.next b0
  have HT0 : Hid (Tab (w.alloc (.cells #[.int .i64 (v : Int), u] 29))) := hT0
  clear hu G
  go_enter Tryd.func66, Tryd.ntmps66
  go_wp2_with (first
    | (go_at_call 49; refine C1.mono ?_; rintro e w3 ⟨⟨x, rfl, hrow⟩, hb3⟩; clear C1; have CM := HM.out x w3 (HT0.out.next hb3) hrow.sc)
    | (go_at_call 87; refine CM.mono ?_; rintro e w4 ⟨y, rfl, hy, hb4⟩; clear CM))
  have hb5 := Below.next b0 hb3
  refine bodyPost_ret (v := .tuple #[y, .int .i64 0]) (by simp [results, Tryd.results66, go_sem]) rfl ⟨_, rfl, own_low hy hb5.size, Below.next hb5 hb4⟩

end Go.Proofs.YtgpkhfpejopacaaDoor
