/- The walk of the document's TriangleOf. -/
import Derived.Test.YtlmjlffipinjiaaDoorSG5
import Derived.Deep.RegionHeld3
import Derived.Deep.MidRow
namespace Go.Proofs.YtlmjlffipinjiaaDoor
open Go.RowKit

/-- The pairs that have been laid down. -/
def pT (n a b : Nat) : List Nat := ((List.range a).flatMap fun a' => (List.range (n - (a' + 1))).map fun b' => 2 ^ a' + 2 ^ (a' + 1 + b')) ++ (List.range b).map fun b' => 2 ^ a + 2 ^ (a + 1 + b')
theorem pT_step (n a b : Nat) : pT n a (b + 1) = pT n a b ++ [2 ^ a + 2 ^ (a + 1 + b)] := by
  unfold pT
  rw [List.range_succ, List.map_append, List.append_assoc]
  rfl
theorem pT_row (n a : Nat) : pT n (a + 1) 0 = pT n a (n - (a + 1)) := by
  unfold pT
  rw [List.range_succ, List.flatMap_append]
  simp
theorem pT_full (n : Nat) : pT n n 0 = trL n := by unfold pT trL; simp
theorem pT_len : ∀ n a b : Fin 8, (pT n.val a.val b.val).length ≤ 99 := by decide +kernel
def vn (l : List Nat) : List Value := l.map fun (x : Nat) => Value.int .i64 (x : Int)
theorem vn_snoc (l : List Nat) (x : Nat) : vn (l ++ [x]) = vn l ++ [.int .i64 (x : Int)] := by simp [vn]
theorem vn_vi (l : List Nat) : vn l = vi (l.map fun (x : Nat) => (x : Int)) := by simp [vn, vi]
theorem news_one (w : World) (u : Value) : ∀ j v, [u][j]? = some v → (w.alloc (.cells #[u] 3)).cell? ((⟨w.heap.size, 0, none⟩ : Addr).add j) = some v := fun j v hj => by
  match j, hj with
  | 0, hj =>
    simp only [List.getElem?_cons_zero, Option.some.injEq] at hj
    subst hj
    rw [Addr.add_mid, cell_of_row _ _ _ _ _ _ (heap_alloc_new w _)]
    rfl
theorem andS {a b : Nat} (ha : a < 1000) (hb : b < 1000) : bits .and .i64 (a : Int) (b : Int) = ((a &&& b : Nat) : Int) := by
  have hx : a &&& b ≤ a := Nat.and_le_left
  have h1 : (BitVec.ofInt (8 * 8) (a : Int)).toNat = a := by
    rw [BitVec.ofInt_natCast, BitVec.toNat_ofNat]; exact Nat.mod_eq_of_lt (by omega)
  have h2 : (BitVec.ofInt (8 * 8) (b : Int)).toNat = b := by
    rw [BitVec.ofInt_natCast, BitVec.toNat_ofNat]; exact Nat.mod_eq_of_lt (by omega)
  show IntKind.i64.wrap ((BitVec.ofInt (8 * 8) (a : Int) &&& BitVec.ofInt (8 * 8) (b : Int)).toNat : Int) = _
  rw [BitVec.toNat_and, h1, h2, IntKind.wrap_i64]
  omega
theorem or_tab : ∀ a b : Fin 7, a.val < b.val → bits .or .i64 ((2 ^ a.val : Nat) : Int) ((2 ^ b.val : Nat) : Int) = ((2 ^ a.val + 2 ^ b.val : Nat) : Int) ∧ 2 ^ a.val + 2 ^ b.val ≤ 99 := by decide +kernel
theorem tr_le : ∀ n : Fin 8, (trL n.val).all (fun x => decide (x ≤ 99)) = true := by decide +kernel
theorem AB.ret2 {w W wr : World} {q r k : Nat} {n : Int} {l : List Int} {o : Value} (h : AB W q r n k l o wr) (hw : Below w.heap.size w W) (hr : w.heap.size ≤ r) : ((wr.setCell ⟨r, 0, none⟩ (.int .i64 n)).setCell ⟨r, 1, none⟩ o).heap[r]? = some (.cells #[.int .i64 n, o] 26 (0, 0)) ∧ ((wr.setCell ⟨r, 0, none⟩ (.int .i64 n)).setCell ⟨r, 1, none⟩ o).ownsRow W.heap.size 3 1 o k (vi l) ∧ Below w.heap.size w ((wr.setCell ⟨r, 0, none⟩ (.int .i64 n)).setCell ⟨r, 1, none⟩ o) := by
  refine ⟨put2_row h.rbox _ _, ?_, ((Below.next hw h.bel).setCell (p := ⟨r, 0, none⟩) hr _).setCell (p := ⟨r, 1, none⟩) hr _⟩
  exact orow_other (orow_other h.row _ _ (own_diff h.row h.rbox)) _ _ (own_diff h.row h.rbox)
set_option maxRecDepth 100000 in
set_option maxHeartbeats 8000000 in
theorem TriangleOf_bad (n : Int) (w : World) (h : n < 2 ∨ 7 < n) :
    Calls Tryd.prog 9 #[.int .i64 n] w fun e w' => e = .returned (.tuple #[.agg #[.int .i64 0, .slice none 0 0], .int .i64 1]) ∧ Below w.heap.size w w' := by
  have hr := heap_alloc_new w (.cells #[.int .i64 0, .slice none 0 0] 26)
  by_cases h1 : n < 2
  · have d1 : decide (n < 2) = true := decide_eq_true h1
    clear h h1
    go_enter Tryd.func9, Tryd.ntmps9
    go_wp2
    exact post_sq2 2 3 Tryd.results9 rfl hr rfl rfl ⟨rfl, balloc _ _⟩
  · have d1 : decide (n < 2) = false := decide_eq_false h1
    have h2 : 7 < n := by omega
    have d2 : decide (7 < n) = true := decide_eq_true h2
    clear h h1 h2
    go_enter Tryd.func9, Tryd.ntmps9
    go_wp2
    exact post_sq2 2 3 Tryd.results9 rfl hr rfl rfl ⟨rfl, balloc _ _⟩
set_option maxRecDepth 100000 in
set_option maxHeartbeats 16000000 in
theorem TriangleOf_main (n : Nat) (w : World) (h2 : 2 ≤ n) (h7 : n ≤ 7) :
    Calls Tryd.prog 9 #[.int .i64 (n : Int)] w fun e w' => (∃ y, e = .returned (.tuple #[.agg #[.int .i64 (tN n : Int), y], .int .i64 0]) ∧ OwnS w' y (trC n)) ∧ Below w.heap.size w w' := by
  obtain ⟨i3, hi3, hz0, hz1, hz2⟩ := info3
  have HI3 : Hid (Tryd.prog.info? 3 = some i3 ∧ i3.zero = some (.int .i64 0) ∧ i3.size = 1 ∧ i3.bytes = 8) := ⟨hi3, hz0, hz1, hz2⟩
  have HLEN : Hid (∀ a b, a < 8 → b < 8 → (pT n a b).length ≤ 99) := fun a b ha hb => pT_len ⟨n, by omega⟩ ⟨a, ha⟩ ⟨b, hb⟩
  have HST : Hid (∀ a b, pT n a (b + 1) = pT n a b ++ [2 ^ a + 2 ^ (a + 1 + b)]) := pT_step n
  have HRW : Hid (∀ a, pT n (a + 1) 0 = pT n a (n - (a + 1))) := pT_row n
  have HFU : Hid (pT n n 0 = trL n) := pT_full n
  have HNI : Hid (pT n 0 0 = []) := rfl
  have hkk : ∀ i : Fin 8, 2 ≤ i.val → 1 ≤ tN i.val ∧ tN i.val ≤ 21 := by decide +kernel
  obtain ⟨hk1, hk21⟩ := hkk ⟨n, by omega⟩ h2
  dsimp only at hk1 hk21
  have HLE0 : Hid (∀ j, j < tN n → (trL n).getD j 0 ≤ 99) := fun j hj => by
    have hall := tr_le ⟨n, by omega⟩
    rw [List.all_eq_true] at hall
    have hj' : j < (trL n).length := hj
    have := hall ((trL n)[j]) (List.getElem_mem hj')
    simp only [decide_eq_true_eq] at this
    simpa [List.getD_eq_getElem?_getD, hj'] using this
  have HTR : Hid (∀ a b, trG n a b = if a ≠ b ∧ (trL n).getD a 0 &&& (trL n).getD b 0 ≠ 0 then 1 else 0) := fun _ _ => rfl
  have HQ : Hid (trC n = (List.range (tN n * tN n)).map fun j => trG n (j / tN n) (j % tN n)) := rfl
  have HTL : Hid ((trL n).length = tN n) := rfl
  rw [HQ.out]
  clear HQ hkk
  generalize trG n = T at *
  generalize trL n = tl at *
  generalize tN n = z at *
  generalize hf : (fun j => T (j / z) (j % z)) = f
  have HF : Hid (∀ a b, b < z → f (a * z + b) = T a b) := fun a b hb => by
    rw [← hf]
    dsimp only
    obtain ⟨e1, e2⟩ := cell_div (i := a) (j := b) (n := z) hb
    rw [e1, e2]
  clear hf
  generalize pT n = Q at *
  have d1 : decide ((n : Int) < 2) = false := by simp; omega
  have d2 : decide (7 < (n : Int)) = false := by simp; omega
  have R0 := heap_alloc_new w (.cells #[.int .i64 0, .slice none 0 0] 26)
  have b0 := balloc w (.cells #[.int .i64 0, .slice none 0 0] 26)
  have hOn : (w.alloc (.cells #[.int .i64 0, .slice none 0 0] 26)).ownsRow w.heap.size 3 1 (.slice none 0 0) 0 (vn (Q 0 0)) := by rw [HNI.out]; exact World.ownsRow_nil _ _ _ _
  go_enter Tryd.func9, Tryd.ntmps9
  go_wp2
  go_loopw [4, 5] (fun lv av wr => ∃ (a k : Nat) (o : Value), av = .int .i64 (a : Int) ∧ a ≤ n ∧ Hid (k = (Q a 0).length) ∧ lv = o ∧ wr.ownsRow w.heap.size 3 1 o k (vn (Q a 0)) ∧ wr.heap[w.heap.size]? = some (.cells #[.int .i64 0, .slice none 0 0] 26 (0, 0)) ∧ Below w.heap.size w wr) (fun _ av _ => (n - intOf av).toNat)
  case atStart => exact ⟨0, 0, _, rfl, by omega, (by rw [HNI.out]; rfl : 0 = (Q 0 0).length), rfl, hOn, R0, b0⟩
  case round =>
    clear R0 b0 hOn
    obtain ⟨a, k, o, rfl, ha, Hk, ho, hW, R0, hB⟩ := hrel
    replace ho := ho.symm
    subst ho
    by_cases hla : a < n
    · have hda : decide ((a : Int) < (n : Int)) = true := by simp; omega
      have hda2 : decide (a < n) = true := by simp; omega
      obtain ⟨oa, oc, rfl⟩ := own_slice hW
      go_wp2
      go_loopw [4, 6] (fun lv bv wr => ∃ (c k b : Nat) (o : Value), bv = .int .i64 (b : Int) ∧ Hid (b = a + 1 + c) ∧ b ≤ n ∧ Hid (k = (Q a c).length) ∧ lv = o ∧ wr.ownsRow w.heap.size 3 1 o k (vn (Q a c)) ∧ wr.heap[w.heap.size]? = some (.cells #[.int .i64 0, .slice none 0 0] 26 (0, 0)) ∧ Below w.heap.size w wr) (fun _ bv _ => (n - intOf bv).toNat)
      case atStart => exact ⟨0, k, a + 1, _, by go_num, (by omega : a + 1 = a + 1 + 0), by omega, Hk, rfl, hW, R0, hB⟩
      case round =>
        clear hW R0 hB Hk
        obtain ⟨c, k, b, o, rfl, HBC, hbn, Hk, rfl, hW, R0, hB⟩ := hrel
        have hbc := HBC.out
        have hab : a < b := by omega
        have hac : c < 8 := by omega
        obtain ⟨oa, oc, rfl⟩ := own_slice hW
        have hl0 : w.heap.size < wr.heap.size := (Array.getElem?_eq_some_iff.1 R0).1
        have hsz := hB.size
        have hk99 : k ≤ 99 := by rw [Hk.out]; exact HLEN.out a c (by omega) hac
        by_cases hlb : b < n
        · have hdb : decide ((b : Int) < (n : Int)) = true := by simp; omega
          obtain ⟨eor, ele⟩ := or_tab ⟨a, by omega⟩ ⟨b, by omega⟩ hab
          dsimp only at eor ele
          have HVS0 : Hid (vn (Q a (c + 1)) = vn (Q a c) ++ [.int .i64 ((2 ^ a + 2 ^ b : Nat) : Int)]) := by show _ = _; rw [HST.out, vn_snoc, HBC.out]
          have Hk2 : Hid (k + 1 = (Q a (c + 1)).length) := by show _ = _; rw [HST.out, List.length_append, ← Hk.out]; rfl
          obtain ⟨PA, HPA⟩ : ∃ PA : Nat, Hid (2 ^ a = PA) := ⟨_, rfl⟩
          obtain ⟨PB, HPB⟩ : ∃ PB : Nat, Hid (2 ^ b = PB) := ⟨_, rfl⟩
          rw [HPA.out, HPB.out] at eor ele HVS0
          have pa : (2 : Int) ^ a = (PA : Int) := by rw [← HPA.out]; simp
          have pb : (2 : Int) ^ b = (PB : Int) := by rw [← HPB.out]; simp
          have ua := wrapN9 (q := PA) (by omega)
          have ub := wrapN9 (q := PB) (by omega)
          obtain ⟨fl, Hfl⟩ : ∃ fl, Hid (vn (Q a c) = fl) := ⟨_, rfl⟩
          rw [Hfl.out] at hW HVS0
          have HVS : Hid (vn (Q a (c + 1)) = fl ++ [.int .i64 ((PA + PB : Nat) : Int)]) := HVS0
          have ha64 : decide ((a : Int) < 0) = false := by simp
          have hb64 : decide ((b : Int) < 0) = false := by simp
          have Hbc2 : Hid (b + 1 = a + 1 + (c + 1)) := by show _ = _; rw [HBC.out]; omega
          clear HVS0 Hk HBC hbc
          go_wp2_with fail
          refine wp_region_noPanic ?_
          refine wp_region_held_drew (S := fun _ => True) (by kernel_rfl) trivial (fun hSx => ?_)
          refine wpAnyH_take (i := 0) (v := .slice oa k oc) rfl (by kernel_rfl) (by kernel_rfl) (by kernel_rfl) (fun _ _ _ h => h) (Or.inl ⟨by rfl, fun w' hSw => by (try dsimp only at hSw); go_simp⟩) trivial ?_
          try simp only [Act.put, List.setIfInBounds_toArray]
          refine wpAnyH_take (i := 1) (v := .int .i64 (a : Int)) rfl (by kernel_rfl) (by kernel_rfl) (by kernel_rfl) (fun _ _ _ h => h) (Or.inl ⟨by rfl, fun w' hSw => by (try dsimp only at hSw); go_simp⟩) trivial ?_
          try simp only [Act.put]
          refine wpAnyH_take (i := 2) (v := .int .i64 (PA : Int)) rfl (by kernel_rfl) (by kernel_rfl) (by kernel_rfl) (fun _ _ _ h => h) (Or.inl ⟨by rfl, fun w' hSw => by (try dsimp only at hSw); go_simp⟩) trivial ?_
          try simp only [Act.put]
          refine wpAnyH_take (i := 3) (v := .int .i64 (b : Int)) rfl (by kernel_rfl) (by kernel_rfl) (by kernel_rfl) (fun _ _ _ h => h) (Or.inl ⟨by rfl, fun w' hSw => by (try dsimp only at hSw); go_simp⟩) trivial ?_
          try simp only [Act.put]
          refine wpAnyH_take (i := 4) (v := .int .i64 (PB : Int)) rfl (by kernel_rfl) (by kernel_rfl) (by kernel_rfl) (fun _ _ _ h => h) (Or.inl ⟨by rfl, fun w' hSw => by (try dsimp only at hSw); go_simp⟩) trivial ?_
          try simp only [Act.put]
          refine wpAnyH_take (i := 5) (v := .int .i64 ((PA + PB : Nat) : Int)) rfl (by kernel_rfl) (by kernel_rfl) (by kernel_rfl) (fun _ _ _ h => h) (Or.inl ⟨by rfl, fun w' hSw => by (try dsimp only at hSw); go_simp⟩) trivial ?_
          try simp only [Act.put]
          refine wpAnyH_ready (rs := [6]) (by kernel_rfl) (by simp) ?_
          refine AllReadyH.cons rfl (fun J hJ => ?_) AllReadyH.nil
          go_simp
          refine hJ.out _ _ trivial (fun _ => ?_)
          clear hJ J
          try simp only [Act.put, List.setIfInBounds_toArray, List.set_cons_zero, List.set_cons_succ]
          refine wpAnyH_ready (rs := [7]) (by kernel_rfl) (by simp) ?_
          refine AllReadyH.cons rfl (fun J hJ => ?_) AllReadyH.nil
          rw [if_pos (by rfl)]
          refine wp_append_lies _ _ _ 22 rfl w.heap.size 3 i3 (.int .i64 0) 1 8 und22 HI3.out.1 HI3.out.2.1 HI3.out.2.2.1 HI3.out.2.2.2 rfl (by decide) (.slice oa k oc) k fl rfl (World.ownsRow.alloc (w := wr.drew) hW _) ⟨wr.heap.size, 0, none⟩ 1 1 [.int .i64 ((PA + PB : Nat) : Int)] rfl rfl (news_one wr.drew _) (fun u hu => by simp at hu; subst hu; rfl) (by decide) (by unfold maxLen; omega) (by omega) (by simp; omega) _ rfl ?_
          intro og oc2 w7 hW7 hg7 _ _
          have hR7 := (hg7.block w.heap.size (by simp; omega) (fun e => own_diff hW R0 e.symm)).trans (((balloc wr.drew (.cells #[.int .i64 ((PA + PB : Nat) : Int)] 3)).block w.heap.size hl0).trans R0)
          have hB7 : Below w.heap.size w w7 := (Below.next hB.drew (balloc wr.drew (.cells #[.int .i64 ((PA + PB : Nat) : Int)] 3))).grown hg7 (by simp; omega) (fun j hj => (hW.lt j hj).1)
          refine hJ.out _ _ trivial (fun _ => ?_)
          clear hJ J
          try simp only [Act.put, List.setIfInBounds_toArray]
          refine wpAnyH_ready (rs := [8]) (by kernel_rfl) (by simp) ?_
          refine AllReadyH.cons rfl (fun J hJ => ?_) AllReadyH.nil
          go_simp
          refine hJ.out _ _ trivial (fun _ => ?_)
          clear hJ J
          try simp only [Act.put, List.setIfInBounds_toArray, List.set_cons_zero, List.set_cons_succ]
          refine wpAnyH_done (by kernel_rfl) ?_ _
          refine NoPanic.normal ?_
          clear hSx
          rw [← HVS.out] at hW7
          go_wp2
          go_roundw
          case rel => exact ⟨c + 1, k + 1, b + 1, _, by go_num, Hbc2, by omega, Hk2, rfl, hW7, hR7, hB7⟩
          case measure => simp [intOf]; omega
        · have hdb : decide ((b : Int) < (n : Int)) = false := by simp; omega
          have hdb2 : decide (b < n) = false := by simp; omega
          have HR : Hid (Q (a + 1) 0 = Q a c) := by show _ = _; rw [HRW.out, show n - (a + 1) = c by omega]
          have Hk2 : Hid (k = (Q (a + 1) 0).length) := by show _ = _; rw [HR.out]; exact Hk.out
          rw [← HR.out] at hW
          clear Hk HBC hbc
          go_wp2
          go_roundw
          case rel => exact ⟨a + 1, k, _, by go_num, by omega, Hk2, rfl, hW, R0, hB⟩
          case measure => simp [intOf]; omega
    · have hda : decide ((a : Int) < (n : Int)) = false := by simp; omega
      have hda2 : decide (a < n) = false := by simp; omega
      have hfull : Q a 0 = tl := by rw [show a = n by omega]; exact HFU.out
      rw [hfull] at hW Hk
      obtain rfl : k = z := by rw [Hk.out]; exact HTL.out
      have hlen : (tl.map fun (x : Nat) => (x : Int)).length = k := by rw [List.length_map]; exact Hk.out.symm
      have hsl : Sl wr o (tl.map fun (x : Nat) => (x : Int)) := by
        rw [vn_vi] at hW
        exact row_sl hW hlen
      obtain ⟨g, off, cap, rfl, hg, hcell⟩ := hsl.form hlen (by omega)
      have HC : Hid (∀ j, j < k → wr.cell? ⟨g, off + j, none⟩ = some (.int .i64 ((tl.getD j 0 : Nat) : Int))) := fun j hj => by
        rw [hcell j hj]
        have : j < tl.length := by rw [← Hk.out]; exact hj
        simp [List.getD_eq_getElem?_getD, this]
      have HLE := HLE0
      obtain ⟨z, hzk⟩ : ∃ z, z = k := ⟨_, rfl⟩
      subst hzk
      obtain ⟨W, hWW⟩ : ∃ W : World, W = wr := ⟨_, rfl⟩
      subst hWW
      have hl0 : w.heap.size < W.heap.size := (Array.getElem?_eq_some_iff.1 R0).1
      have hzz : z * z ≤ 999 := Nat.le_trans (Nat.mul_le_mul hk21 hk21) (by decide)
      have HAB : AB W W.heap.size w.heap.size z 0 ((List.range 0).map f) (.slice none 0 0) (W.alloc (.cells #[.int .i64 (z : Int), .slice none 0 0] 26)) :=
        ⟨heap_alloc_new W _, (Below.heap_alloc _ _ _ hl0).trans R0, World.ownsRow_nil _ _ _ _, balloc _ _⟩
      have HBW : Hid (Below w.heap.size w W) := hB
      clear hsl hcell hW Hk hlen hfull HFU HNI HRW HST HLEN hB R0 HTL HLE0
      go_wp2
      go_loopw [8] (fun av wr => ∃ (a k : Nat) (o : Value), av = .int .i64 (a : Int) ∧ a ≤ z ∧ Hid (k = a * z) ∧ AB W W.heap.size w.heap.size z k ((List.range k).map f) o wr) (fun av _ => (z - intOf av).toNat)
      case atStart => exact ⟨0, 0, _, rfl, by omega, (by omega : 0 = 0 * z), HAB⟩
      case round =>
        clear HAB
        obtain ⟨i, k, o, rfl, ha, Hk, HAB⟩ := hrel
        by_cases hla : i < z
        · have hdi : decide ((i : Int) < (z : Int)) = true := by simp; omega
          have hdi2 : decide (i < z) = true := by simp; omega
          go_wp2
          go_loopw [9] (fun bv wr => ∃ (b k : Nat) (o : Value), bv = .int .i64 (b : Int) ∧ b ≤ z ∧ Hid (k = i * z + b) ∧ AB W W.heap.size w.heap.size z k ((List.range k).map f) o wr) (fun bv _ => (z - intOf bv).toNat)
          case atStart => exact ⟨0, k, o, rfl, by omega, Hk, HAB⟩
          case round =>
            clear HAB Hk
            obtain ⟨b, k, o, rfl, hb, Hk, HAB⟩ := hrel
            obtain ⟨s0, s1, sf0, sf1⟩ := row2 HAB.sbox
            obtain ⟨a0, a1, af0, af1⟩ := row2 HAB.rbox
            by_cases hlb : b < z
            · have hdb : decide ((b : Int) < (z : Int)) = true := by simp; omega
              have hai : (i : Int) < z := by omega
              have hbi : (b : Int) < z := by omega
              have ca := (HAB.bel.cell (p := ⟨g, off + i, none⟩) hg).trans (HC.out i hla)
              have cb := (HAB.bel.cell (p := ⟨g, off + b, none⟩) hg).trans (HC.out b hlb)
              have la := HLE.out i hla
              have lb := HLE.out b hlb
              have hk99 : k ≤ 999 := by
                have := cell_ltG hla hlb
                rw [Hk.out]; omega
              have hfk : f k = T i b := by rw [Hk.out]; exact HF.out i b hlb
              rw [HTR.out] at hfk
              have Hk2 : Hid (k + 1 = i * z + (b + 1)) := by show _ = _; rw [Hk.out]; omega
              generalize tl.getD i 0 = xa at ca hfk la
              generalize tl.getD b 0 = xb at cb hfk lb
              have hand := andS (a := xa) (b := xb) (by omega) (by omega)
              obtain ⟨y, Hy⟩ : ∃ y, Hid (xa &&& xb = y) := ⟨_, rfl⟩
              rw [Hy.out] at hand hfk
              have hy99 : y ≤ 99 := by rw [← Hy.out]; have : xa &&& xb ≤ xa := Nat.and_le_left; omega
              have hW := HAB.row
              have hB := HAB.bel
              have hsz := hB.size
              have hl2 : W.heap.size < wr.heap.size := (Array.getElem?_eq_some_iff.1 HAB.sbox).1
              obtain ⟨oa, oc, rfl⟩ := own_slice hW
              obtain ⟨fl, Hfl⟩ : ∃ fl, Hid (vi ((List.range k).map f) = fl) := ⟨_, rfl⟩
              rw [Hfl.out] at hW
              have HABH : Hid (AB W W.heap.size w.heap.size z k ((List.range k).map f) (.slice oa k oc) wr) := HAB
              clear HAB Hk
              by_cases hab : i = b
              · have dab : ((i : Int) != (b : Int)) = false := by simp [hab]
                replace hfk : f k = 0 := hfk.trans (if_neg fun h => h.1 hab)
                clear hab
                go_wp2
                go_quiet (fail)
                go_wp2_with (first
                  | (at_builtin; refine wpList_append_own _ rfl _ _ 22 rfl W.heap.size 3 i3 (.int .i64 0) 1 8 und22 hi3 hz0 hz1 hz2 rfl (by decide) _ k fl rfl (hW.alloc _) ⟨wr.heap.size, 0, none⟩ 1 1 [.int .i64 0] rfl rfl ?c1 ?c2 ?c3 ?c4 ?c5 ?_)
                  | go_in)
                case c1 =>
                  intro j u hj
                  match j, hj with
                  | 0, hj => simp at hj; subst hj; simp [Addr.add]; exact news_q (wr.drewN nq) _
                case c2 => intro u hu; simp at hu; subst hu; rfl
                case c3 => unfold maxLen; omega
                case c4 => omega
                case c5 => simp; omega
                intro v' w2 hown' hgrow _
                have HA := HABH.out.quiet nq
                have k2 := HA.kept hgrow HA.sbox
                have hown2 : w2.ownsRow W.heap.size 3 1 v' (k + 1) (vi ((List.range k).map f ++ [0])) := by
                  rw [show vi ((List.range k).map f ++ [0]) = fl ++ [.int .i64 0] by rw [← Hfl.out]; simp [vi]]
                  exact hown'
                obtain ⟨va, vc, rfl⟩ := own_slice hown2
                have HA2 := HA.more hgrow hown2 (Nat.le_refl _) (by omega)
                rw [show (List.range k).map f ++ [0] = (List.range (k + 1)).map f by rw [List.range_succ, List.map_append, ← hfk]; rfl] at HA2
                have HA3 : Hid (AB W W.heap.size w.heap.size z (k + 1) ((List.range (k + 1)).map f) (.slice va (k + 1) vc) (w2.setCell ⟨W.heap.size, 1, none⟩ (.slice va (k + 1) vc))) := HA2
                obtain ⟨v0, v1, vf0, vf1⟩ := row2 k2
                clear HA HA2 k2 hown' hown2 hgrow s0 s1 sf0 sf1 a0 a1 af0 af1 hW ca cb
                go_wp2
                go_roundw
                case rel => exact ⟨b + 1, k + 1, _, by go_num, by omega, Hk2, HA3.out⟩
                case measure => simp [intOf]; omega
              · have dab : ((i : Int) != (b : Int)) = true := by simp; omega
                by_cases hy : y = 0
                · have dy : ((y : Int) != 0) = false := by simp [hy]
                  replace hfk : f k = 0 := hfk.trans (if_neg fun h => h.2 hy)
                  clear hab hy
                  go_wp2
                  go_quiet (fail)
                  go_wp2_with (first
                    | (at_builtin; refine wpList_append_own _ rfl _ _ 22 rfl W.heap.size 3 i3 (.int .i64 0) 1 8 und22 hi3 hz0 hz1 hz2 rfl (by decide) _ k fl rfl (hW.alloc _) ⟨wr.heap.size, 0, none⟩ 1 1 [.int .i64 0] rfl rfl ?c1 ?c2 ?c3 ?c4 ?c5 ?_)
                    | go_in)
                  case c1 =>
                    intro j u hj
                    match j, hj with
                    | 0, hj => simp at hj; subst hj; simp [Addr.add]; exact news_q (wr.drewN nq) _
                  case c2 => intro u hu; simp at hu; subst hu; rfl
                  case c3 => unfold maxLen; omega
                  case c4 => omega
                  case c5 => simp; omega
                  intro v' w2 hown' hgrow _
                  have HA := HABH.out.quiet nq
                  have k2 := HA.kept hgrow HA.sbox
                  have hown2 : w2.ownsRow W.heap.size 3 1 v' (k + 1) (vi ((List.range k).map f ++ [0])) := by
                    rw [show vi ((List.range k).map f ++ [0]) = fl ++ [.int .i64 0] by rw [← Hfl.out]; simp [vi]]
                    exact hown'
                  obtain ⟨va, vc, rfl⟩ := own_slice hown2
                  have HA2 := HA.more hgrow hown2 (Nat.le_refl _) (by omega)
                  rw [show (List.range k).map f ++ [0] = (List.range (k + 1)).map f by rw [List.range_succ, List.map_append, ← hfk]; rfl] at HA2
                  have HA3 : Hid (AB W W.heap.size w.heap.size z (k + 1) ((List.range (k + 1)).map f) (.slice va (k + 1) vc) (w2.setCell ⟨W.heap.size, 1, none⟩ (.slice va (k + 1) vc))) := HA2
                  obtain ⟨v0, v1, vf0, vf1⟩ := row2 k2
                  clear HA HA2 k2 hown' hown2 hgrow s0 s1 sf0 sf1 a0 a1 af0 af1 hW ca cb
                  go_wp2
                  go_roundw
                  case rel => exact ⟨b + 1, k + 1, _, by go_num, by omega, Hk2, HA3.out⟩
                  case measure => simp [intOf]; omega
                · have dy : ((y : Int) != 0) = true := by simp; omega
                  replace hfk : f k = 1 := hfk.trans (if_pos ⟨hab, hy⟩)
                  clear hab hy
                  go_wp2
                  go_quiet (fail)
                  go_wp2_with (first
                    | (at_builtin; refine wpList_append_own _ rfl _ _ 22 rfl W.heap.size 3 i3 (.int .i64 0) 1 8 und22 hi3 hz0 hz1 hz2 rfl (by decide) _ k fl rfl (hW.alloc _) ⟨wr.heap.size, 0, none⟩ 1 1 [.int .i64 1] rfl rfl ?c1 ?c2 ?c3 ?c4 ?c5 ?_)
                    | go_in)
                  case c1 =>
                    intro j u hj
                    match j, hj with
                    | 0, hj => simp at hj; subst hj; simp [Addr.add]; exact news_q (wr.drewN nq) _
                  case c2 => intro u hu; simp at hu; subst hu; rfl
                  case c3 => unfold maxLen; omega
                  case c4 => omega
                  case c5 => simp; omega
                  intro v' w2 hown' hgrow _
                  have HA := HABH.out.quiet nq
                  have k2 := HA.kept hgrow HA.sbox
                  have hown2 : w2.ownsRow W.heap.size 3 1 v' (k + 1) (vi ((List.range k).map f ++ [1])) := by
                    rw [show vi ((List.range k).map f ++ [1]) = fl ++ [.int .i64 1] by rw [← Hfl.out]; simp [vi]]
                    exact hown'
                  obtain ⟨va, vc, rfl⟩ := own_slice hown2
                  have HA2 := HA.more hgrow hown2 (Nat.le_refl _) (by omega)
                  rw [show (List.range k).map f ++ [1] = (List.range (k + 1)).map f by rw [List.range_succ, List.map_append, ← hfk]; rfl] at HA2
                  have HA3 : Hid (AB W W.heap.size w.heap.size z (k + 1) ((List.range (k + 1)).map f) (.slice va (k + 1) vc) (w2.setCell ⟨W.heap.size, 1, none⟩ (.slice va (k + 1) vc))) := HA2
                  obtain ⟨v0, v1, vf0, vf1⟩ := row2 k2
                  clear HA HA2 k2 hown' hown2 hgrow s0 s1 sf0 sf1 a0 a1 af0 af1 hW ca cb
                  go_wp2
                  go_roundw
                  case rel => exact ⟨b + 1, k + 1, _, by go_num, by omega, Hk2, HA3.out⟩
                  case measure => simp [intOf]; omega
            · have hdb : decide ((b : Int) < (z : Int)) = false := by simp; omega
              have hdb2 : decide (b < z) = false := by simp; omega
              have Hk2 : Hid (k = (i + 1) * z) := by show _ = _; rw [Hk.out, Nat.succ_mul, show b = z by omega]
              clear s0 s1 sf0 sf1 a0 a1 af0 af1
              go_wp2
              go_roundw
              case rel => exact ⟨i + 1, k, o, by go_num, by omega, Hk2, HAB⟩
              case measure => simp [intOf]; omega
        · have hdi : decide ((i : Int) < (z : Int)) = false := by simp; omega
          have hdi2 : decide (i < z) = false := by simp; omega
          obtain rfl : k = z * z := by rw [Hk.out, show i = z by omega]
          obtain ⟨s0, s1, sf0, sf1⟩ := row2 HAB.sbox
          obtain ⟨a0, a1, af0, af1⟩ := row2 HAB.rbox
          obtain ⟨e1, e2, e3⟩ := HAB.ret2 HBW.out (Nat.le_refl _)
          have HE2 : Hid _ := e2
          have HE3 : Hid _ := e3
          obtain ⟨oa, oc, rfl⟩ := own_slice HAB.row
          clear HAB e2 e3
          go_wp2
          exact post_sq2 2 3 Tryd.results9 rfl e1 rfl rfl ⟨⟨_, rfl, OwnS.of (base := W.heap.size) (by rw [show ((List.range (z * z)).map f).length = z * z by simp]; exact HE2.out)⟩, HE3.out⟩
theorem TriangleOf_any (n : Int) (w : World) : Calls Tryd.prog 9 #[.int .i64 n] w fun e w' => (∃ y, e = .returned (.tuple #[.agg #[.int .i64 (tS n), y], .int .i64 (tE n : Int)]) ∧ OwnS w' y (tL n)) ∧ Below w.heap.size w w' := by
  by_cases h : n < 2 ∨ 7 < n
  · have e : tE n = 1 := if_pos h
    have e1 : tS n = 0 := if_neg (by omega)
    have e2 : tL n = [] := if_neg (by omega)
    rw [e, e1, e2]
    exact (TriangleOf_bad n w h).mono fun e w' ⟨he, hb⟩ => ⟨⟨_, he, OwnS.nil _⟩, hb⟩
  · have e : tE n = 0 := if_neg h
    obtain ⟨m, rfl⟩ : ∃ m : Nat, n = m := ⟨n.toNat, by omega⟩
    have e1 : tS m = tN m := if_pos e
    have e2 : tL m = trC m := if_pos e
    rw [e, e1, e2]
    exact TriangleOf_main m w (by omega) (by omega)
end Go.Proofs.YtlmjlffipinjiaaDoor
