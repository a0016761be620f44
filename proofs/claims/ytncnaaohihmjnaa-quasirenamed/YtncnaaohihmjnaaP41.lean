/- One number is struck out of a row of the call's own: the library's Delete, by its contract. -/
import Derived.Shelf.Slices.Delete
import Derived.Shelf.Slices.Cells
import Derived.Test.YtncnaaohihmjnaaPCyc
namespace Go.Proofs.Ytncnaaohihmjnaa
open Go.Shelf Go.RowKit

def delRen : Go.Shelf.Ren := ⟨fun | 23 => 74 | n => n, fun | 22 => 22 | 3 => 3 | 4 => 4 | 0 => 0 | n => n, fun | n => n⟩
theorem delLays : Go.Proofs.Lays2.n23 Try.prog delRen := {
  mixed := by kernel_rfl
  f23 := Try.func74.trans (congrArg some (by kernel_rfl))
  t0 := Try.underlying0
  a0 := Try.isAgg0
  z0 := Try.sizeOf0
  v0 := Try.zeroValue0
  t3 := Try.underlying3
  a3 := Try.isAgg3
  z3 := Try.sizeOf3
  v3 := Try.zeroValue3
  t4 := Try.underlying4
  a4 := Try.isAgg4
  z4 := Try.sizeOf4
  v4 := Try.zeroValue4
  t22 := Try.underlying22
  a22 := Try.isAgg22
  z22 := Try.sizeOf22
  v22 := Try.zeroValue22
  i3 := by kernel_rfl }
theorem Own.sets {g n : Nat} : ∀ (vs : List Int) (o : Nat) (w : World) (f : Nat → Int), Own w g n f → Own (w.setCells g o (vs.map (Value.int .i64))) g n (fun j => if o ≤ j ∧ j < o + vs.length then vs.getD (j - o) 0 else f j)
  | [], o, w, f, h => h.congr fun j _ => by rw [if_neg (by rw [List.length_nil]; omega)]
  | x :: vs, o, w, f, h => by
    have h1 := Own.sets vs (o + 1) _ _ (h.set o x)
    refine Own.congr h1 fun j _ => ?_
    by_cases e : j = o
    · subst e
      rw [if_neg (by omega), if_pos (by simp)]
      simp [upd]
    · by_cases h2 : o + 1 ≤ j ∧ j < o + 1 + vs.length
      · rw [if_pos h2, if_pos (by rw [List.length_cons]; omega)]
        rw [show j - o = (j - (o + 1)) + 1 by omega]; simp
      · rw [if_neg h2, if_neg (by rw [List.length_cons]; omega)]
        simp [upd, e]
theorem Kp.sets (M : Nat) : ∀ (vs : List Value) (o : Nat) (w : World), Kp M w (w.setCells M o vs)
  | [], _, w => Kp.refl M w
  | v :: vs, o, w => (Kp.set M w o v).trans (Kp.sets M vs (o + 1) _)
theorem Below.sets {B M : Nat} (h : B ≤ M) : ∀ (vs : List Value) (o : Nat) (w : World), Below B w (w.setCells M o vs)
  | [], _, w => Below.refl B w
  | v :: vs, o, w => ((Below.refl B w).setCell (p := ⟨M, o, none⟩) h v).trans (Below.sets h vs (o + 1) _)

theorem Delete_any (L m c i : Nat) (h : Nat → Int) (w : World) (hO : Own w L (m + 1) h) (hi : i < m + 1) (hc : m + 1 ≤ c) (hcm : c ≤ 9223372036854775807) :
    Calls Try.prog 74 #[.slice (some ⟨L, 0, none⟩) (m + 1) c, .int .i64 (i : Int), .int .i64 ((i : Int) + 1)] w fun e w' => e = .returned (.slice (some ⟨L, 0, none⟩) m c) ∧ Own w' L m (fun j => if j < i then h j else h (j + 1)) ∧ Kp L w w' ∧ Below L w w' := by
  have hz : ((List.range (m + 1)).map h).length = m + 1 := by simp
  have C := Any.slices_Delete_int_cells delLays L 0 (m + 1) c i (i + 1) ((List.range (m + 1)).map h) w (by rw [hz]; exact Nat.le_refl _) hc hcm (by omega) (by omega) (fun j hj => by
    rw [hz] at hj
    rw [Nat.zero_add, hO.cell j hj]; simp [hj]) (fun j hj => by rw [Nat.zero_add]; exact hO.frozen j)
  have e1 : m + 1 - (i + 1 - i) = m := by omega
  have e2 : ((List.range (m + 1)).map h).take (m + 1) = (List.range (m + 1)).map h := List.take_of_length_le (by rw [hz]; exact Nat.le_refl _)
  rw [e1, e2, show i + 1 - i = 1 by omega] at C
  refine C.mono ?_
  rintro e w' ⟨rfl, q, rfl⟩
  have hO2 : Own (w.drewN q) L (m + 1) h := hO
  refine ⟨rfl, ?_, ?_, ?_⟩
  · have h1 := Own.sets (((List.range (m + 1)).map h).take i ++ ((List.range (m + 1)).map h).drop (i + 1) ++ List.replicate 1 0) 0 _ _ hO2
    obtain ⟨cur, k1, k2⟩ := h1
    refine ⟨cur, k1, fun j hj => ?_⟩
    rw [k2 j (by omega)]
    refine congrArg (fun x => some (Value.int .i64 x)) ?_
    have hlen : (((List.range (m + 1)).map h).take i ++ ((List.range (m + 1)).map h).drop (i + 1) ++ List.replicate 1 0).length = m + 1 := by simp; omega
    show (if 0 ≤ j ∧ j < 0 + _ then _ else _) = _
    rw [if_pos (by rw [hlen]; omega), Nat.sub_zero]
    show _ = if j < i then h j else h (j + 1)
    by_cases e : j < i
    · rw [if_pos e, List.getD_eq_getElem?_getD, List.append_assoc, List.getElem?_append_left (by simp; omega)]
      simp [e, show j < m + 1 by omega]
    · rw [if_neg e, List.getD_eq_getElem?_getD, List.append_assoc, List.getElem?_append_right (by simp; omega), List.getElem?_append_left (by simp; omega)]
      rw [List.getElem?_drop]
      simp only [List.length_take, List.length_map, List.length_range]
      rw [show i + 1 + (j - min i (m + 1)) = j + 1 by omega]
      simp [show j + 1 < m + 1 by omega]
  · exact Kp.trans (b := w.drewN q) (Kp.refl L w) (Kp.sets L _ 0 _)
  · exact (show Below L w (w.drewN q) from bdrewN (Below.refl L w) q).trans (Below.sets (Nat.le_refl L) _ 0 _)

end Go.Proofs.Ytncnaaohihmjnaa
