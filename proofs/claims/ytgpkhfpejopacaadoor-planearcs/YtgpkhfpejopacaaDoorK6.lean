/- The walks of common and Meet. -/
import Derived.Test.YtgpkhfpejopacaaDoorK5
import Derived.Test.YtgpkhfpejopacaaDoorPA6
namespace Go.Proofs.YtgpkhfpejopacaaDoor
open Go.RowKit

/-- What two blocks have together, of the first k. -/
def cmL (a b : List Nat) (k : Nat) : List Nat := (a.take k).filter fun y => b.contains y
theorem cmL_up {a b : List Nat} {k x : Nat} (h : a[k]? = some x) : cmL a b (k + 1) = cmL a b k ++ (if b.contains x = true then [x] else []) := by
  unfold cmL
  rw [List.take_add_one, h, List.filter_append]
  congr 1
  simp only [Option.toList_some, List.filter_cons, List.filter_nil]
theorem cmL_len (a b : List Nat) (k : Nat) : (cmL a b k).length ≤ k := Nat.le_trans (List.length_filter_le _ _) (by rw [List.length_take]; omega)
theorem cmL_full (a b : List Nat) : cmL a b a.length = a.filter fun y => b.contains y := by unfold cmL; rw [List.take_length]
theorem cmL_mt (a b : List Nat) : (cmL a b a.length).length = mt a b := by rw [cmL_full]; unfold mt; rw [List.countP_eq_length_filter]
set_option maxRecDepth 100000 in
set_option maxHeartbeats 8000000 in
theorem common_any (a b : List Nat) (u v : Value) (w : World) (hu : Sl w u (a.map Int.ofNat)) (hv : Sl w v (b.map Int.ofNat)) (ha : a.length ≤ 100) (hb : b.length ≤ 100) :
    Calls Tryd.prog 44 #[u, v] w fun e w' => ∃ xa xn xc, e = .returned (.slice xa xn xc) ∧ xn = (cmL a b a.length).length ∧ ORow w' w.heap.size (.slice xa xn xc) (cmL a b a.length) ∧ Below w.heap.size w w' := by
  obtain ⟨i3, hi3, hz0, hz1, hz2⟩ := info3
  have HAE : Hid (∀ i, i < a.length → ∃ g o, (∃ c, u = .slice (some ⟨g, o, none⟩) a.length c) ∧ ∀ W, Below w.heap.size w W → W.cell? ⟨g, o + i, none⟩ = some (.int .i64 ((a.getD i 0 : Nat) : Int))) := fun i hi => by
    obtain ⟨a', c', e, h⟩ := hu
    rw [List.length_map] at h e
    obtain ⟨g, o, e1, h1⟩ := h i hi
    rw [ofNat_at a hi] at h1
    exact ⟨g, o, ⟨c', by rw [e, e1]⟩, fun W hW => (hW.cell (World.block_lt_of_cell? _ _ h1)).trans h1⟩
  have HLI : Hid (∀ (W : World) (x : Nat), Below w.heap.size w W → Calls Tryd.prog 70 #[v, .int .i64 (x : Int)] W fun e w' => e = .returned (.bool (b.contains x)) ∧ w' = W) := fun W x hW => Contains_any b x v W (hv.below hW) hb
  have HCU : Hid (∀ k, k < a.length → cmL a b (k + 1) = cmL a b k ++ (if b.contains (a.getD k 0) = true then [a.getD k 0] else [])) := fun k hk => cmL_up (by rw [List.getD_eq_getElem?_getD, List.getElem?_eq_getElem hk]; rfl)
  have HCL : Hid (∀ k, (cmL a b k).length ≤ k) := cmL_len a b
  have HC0 : Hid (cmL a b 0 = []) := rfl
  obtain ⟨CL, HCC⟩ : ∃ CL : Nat → List Nat, Hid (cmL a b = CL) := ⟨_, rfl⟩
  rw [HCC.out] at HCU HCL HC0 ⊢
  obtain ⟨ua, un, uc, rfl, Hun⟩ : ∃ ua un uc, u = .slice ua un uc ∧ un = a.length := by obtain ⟨x, y, e, _⟩ := hu; exact ⟨x, _, y, e, by rw [List.length_map]⟩
  obtain ⟨va, vn, vc, rfl⟩ : ∃ va vn vc, v = .slice va vn vc := by obtain ⟨x, y, e, _⟩ := hv; exact ⟨x, _, y, e⟩
  generalize a.length = n at *
  subst Hun
  obtain ⟨B, HB⟩ : ∃ B, Hid (w.heap.size = B) := ⟨_, rfl⟩
  have HBS : Hid (∀ W, Below B w W → B ≤ W.heap.size) := fun W h => by rw [← HB.out]; exact h.size
  have h0 : Below B w w := Below.refl _ _
  rw [HB.out] at HAE HLI ⊢
  clear hu hv
  go_enter Tryd.func44, Tryd.ntmps44
  go_wp2
  go_loopw [5, 10] (fun ov iv wr => ∃ (i : Nat) (oa : Option Addr) (on oc : Nat), iv = .int .i64 (i : Int) ∧ i ≤ un ∧ ov = .slice oa on oc ∧ Hid ((CL i).length = on) ∧ Hid (ORow wr B (.slice oa on oc) (CL i)) ∧ Below B w wr) (fun _ iv _ => (un - intOf iv).toNat)
  case atStart => exact ⟨0, none, 0, 0, rfl, by omega, rfl, (show (CL 0).length = 0 by rw [HC0.out]; rfl), (show ORow _ _ _ (CL 0) by rw [HC0.out]; exact World.ownsRow_nil _ _ _ _), h0⟩
  case round =>
    clear h0
    obtain ⟨i, oa, on, oc, rfl, hi, rfl, HON, HOR, hB⟩ := hrel
    by_cases hlt : i < un
    · have hdi : decide ((i : Int) < (un : Int)) = true := by simp; omega
      have hii : (i : Int) < (un : Int) := by omega
      obtain ⟨g, o, ⟨c', e'⟩, hc0⟩ := HAE.out i hlt
      obtain ⟨rfl, rfl⟩ : ua = some ⟨g, o, none⟩ ∧ uc = c' := by simp only [Value.slice.injEq] at e'; exact ⟨e'.1, e'.2.2⟩
      have hc := hc0 _ hB
      have hcu := HCU.out i hlt
      have C := HLI.out wr (a.getD i 0) hB
      obtain ⟨x, Hx⟩ : ∃ x, Hid (a.getD i 0 = x) := ⟨_, rfl⟩
      rw [Hx.out] at hc hcu C
      obtain ⟨t, Ht⟩ : ∃ t, Hid (b.contains x = t) := ⟨_, rfl⟩
      rw [Ht.out] at hcu C
      have HU : Hid (CL (i + 1) = CL i ++ (if t = true then [x] else [])) := hcu
      have hcl := HCL.out i
      rw [HON.out] at hcl
      have hsz := HBS.out _ hB
      clear hcu e' hc0
      cases t
      · have HU2 : Hid (CL (i + 1) = CL i) := (show CL (i + 1) = CL i by rw [HU.out]; simp)
        have HO8 : Hid (ORow wr B (.slice oa on oc) (CL (i + 1))) := (show ORow wr B (.slice oa on oc) (CL (i + 1)) by rw [HU2.out]; exact HOR.out)
        have HL8 : Hid ((CL (i + 1)).length = on) := (show (CL (i + 1)).length = on by rw [HU2.out]; exact HON.out)
        clear HU HOR
        go_wp2_with (go_at_call 70; refine C.mono ?_; rintro e w1 ⟨rfl, hw⟩; replace hw := hw.symm; subst hw; clear C)
        go_roundw
        case rel => exact ⟨i + 1, oa, on, oc, by go_num, by omega, rfl, HL8, HO8, hB⟩
        case measure => simp [intOf]; omega
      · have HU2 : Hid (CL (i + 1) = CL i ++ [x]) := (show CL (i + 1) = CL i ++ [x] by rw [HU.out]; simp)
        have hown : wr.ownsRow B 3 1 (.slice oa on oc) on (((CL i).map Int.ofNat).map (Value.int .i64)) := by
          have h := HOR.out
          unfold ORow at h
          rwa [HON.out] at h
        clear HU HOR
        go_wp2_with (first
          | (go_at_call 70; refine C.mono ?_; rintro e w1 ⟨rfl, hw⟩; replace hw := hw.symm; subst hw; clear C)
          | (at_builtin; refine wpList_append_own _ rfl _ _ 22 rfl B 3 i3 (.int .i64 0) 1 8 und22 hi3 hz0 hz1 hz2 rfl (by decide) _ _ _ rfl (hown.alloc _) ⟨wr.heap.size, 0, none⟩ 1 1 [.int .i64 (x : Int)] rfl rfl (fun j u hj => by (match j, hj with | 0, hj => simp at hj; subst hj; simp [Addr.add])) (fun u hu => by (simp at hu; subst hu; rfl)) (by (unfold maxLen; omega)) (by omega) (by (simp; omega)) ?_; intro v' w8 hown' hgrow _
             have hb8 : Below B w w8 := (hB.alloc hsz _).grown hgrow (by simp; omega) (fun k hk => (hown.lt k hk).1)
             obtain ⟨va', vc', rfl⟩ := own_form2 hown'
             have HO8 : Hid (ORow w8 B (.slice va' (on + 1) vc') (CL (i + 1))) := (show ORow w8 B (.slice va' (on + 1) vc') (CL (i + 1)) by unfold ORow; rw [HU2.out, List.length_append, HON.out, List.map_append, List.map_append]; exact hown')
             have HL8 : Hid ((CL (i + 1)).length = on + 1) := (show (CL (i + 1)).length = on + 1 by rw [HU2.out, List.length_append, HON.out]; rfl)
             clear hown hgrow hown')
          | go_in)
        go_roundw
        case rel => exact ⟨i + 1, va', on + 1, vc', by go_num, by omega, rfl, HL8, HO8, hb8⟩
        case measure => simp [intOf]; omega
    · have hdi : decide ((i : Int) < (un : Int)) = false := by simp; omega
      obtain rfl : i = un := by omega
      go_wp2
      go_ret
      exact ⟨oa, on, oc, rfl, HON.out.symm, HOR.out, hB⟩

end Go.Proofs.YtgpkhfpejopacaaDoor
