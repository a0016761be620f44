/- Difference sets: what is left out, moved, multiplied, developed. Nothing of the program. -/
import Derived.Test.YtmiinhbffiodmaaDoorDfM
namespace Go.Proofs.YtmiinhbffiodmaaDoor

theorem me_range {v : Nat} {D : List Nat} (hD : Pts v D) (c : Nat) : me v D c = dS (List.range v) fun b => if D.contains b = true then (if D.contains ((b + c) % v) = true then 1 else 0) else 0 := by
  unfold me
  rw [dS_in hD, dS_count]
theorem oth_contains {v x : Nat} {D : List Nat} (hx : x < v) : (oth v D).contains x = !D.contains x := by
  rw [Bool.eq_iff_iff, List.contains_iff_mem, oth_mem]
  simp [hx]
/-- What is left out. -/
theorem me_oth {v : Nat} {D : List Nat} (hv : 0 < v) (hD : Pts v D) (c : Nat) : me v (oth v D) c + 2 * D.length = v + me v D c := by
  have e1 : dS (List.range v) (fun b => (if (oth v D).contains b = true then (if (oth v D).contains ((b + c) % v) = true then 1 else 0) else 0) + (if D.contains b = true then 1 else 0) + if D.contains ((c + b) % v) = true then 1 else 0) = dS (List.range v) fun b => 1 + if D.contains b = true then (if D.contains ((b + c) % v) = true then 1 else 0) else 0 := dS_congr fun b hb => by
    rw [oth_contains (List.mem_range.1 hb), oth_contains (Nat.mod_lt _ hv), Nat.add_comm c b]
    cases D.contains b <;> cases D.contains ((b + c) % v) <;> rfl
  rw [dS_add, dS_add, dS_add, dS_const, ← me_range (oth_pts v D), ← me_range hD, dS_shift hv c fun x => if D.contains x = true then 1 else 0, cnt_k hD, List.length_range] at e1
  omega
theorem lev_rest {v l : Nat} {D : List Nat} (hv : 0 < v) (hD : Pts v D) (hL : DLev v D l) : ∃ m, DLev v (oth v D) m ∧ (2 ≤ v → m + 2 * D.length = v + l) := by
  refine ⟨v + l - 2 * D.length, fun c hc => ?_, fun h2 => ?_⟩
  · have := me_oth hv hD c
    rw [hL c hc] at this
    omega
  · have := me_oth hv hD 1
    rw [hL 1 (by rw [Nat.mod_eq_of_lt (by omega)]; omega)] at this
    omega
theorem lev_perm {v l : Nat} {D E : List Nat} (h : D.Perm E) (hL : DLev v D l) : DLev v E l := fun c hc => by
  rw [← hL c hc]
  unfold me
  rw [h.countP_eq]
  congr 1
  funext b
  rw [Bool.eq_iff_iff, List.contains_iff_mem, List.contains_iff_mem, h.mem_iff]
/-- Each number is some other times t. -/
theorem mul_onto {v t : Nat} (hv : 0 < v) (hc : Nat.Coprime t v) (c : Nat) : ∃ d, d < v ∧ (t * d) % v = c % v := by
  have hp : ((List.range v).map fun x => (t * x) % v).Perm (List.range v) := perm_full ⟨nodup_map List.nodup_range fun a ha b hb => mul_inj hc (List.mem_range.1 ha) (List.mem_range.1 hb), fun x hx => by
    obtain ⟨y, _, rfl⟩ := List.mem_map.1 hx
    exact Nat.mod_lt _ hv⟩ (by simp)
  obtain ⟨d, hd, e⟩ := List.mem_map.1 (hp.mem_iff.2 (List.mem_range.2 (Nat.mod_lt c hv)))
  exact ⟨d, List.mem_range.1 hd, e⟩
def mvN (v t s d : Nat) : Nat := (d * t + s) % v
theorem mv_inj {v t s a b : Nat} (hc : Nat.Coprime t v) (ha : a < v) (hb : b < v) (h : mvN v t s a = mvN v t s b) : a = b := by
  unfold mvN at h
  have e1 : ((a * t + s) % v + (v - s % v) ) % v = ((b * t + s) % v + (v - s % v)) % v := by rw [h]
  have key : ∀ a, ((a * t + s) % v + (v - s % v)) % v = (t * a) % v := fun a => by
    have hs : s % v < v := Nat.mod_lt _ (by omega)
    have h1 := Nat.mod_add_div s v
    rw [Nat.mod_add_mod, show a * t + s + (v - s % v) = a * t + v * (s / v + 1) by rw [Nat.mul_add, Nat.mul_one]; omega, Nat.add_mul_mod_self_left, Nat.mul_comm]
  rw [key, key] at e1
  exact mul_inj hc ha hb e1
theorem mv_pts {v t s : Nat} {D : List Nat} (hv : 0 < v) (hD : Pts v D) (hc : Nat.Coprime t v) : Pts v (D.map (mvN v t s)) :=
  ⟨nodup_map hD.nd fun a ha b hb => mv_inj hc (hD.lt a ha) (hD.lt b hb), fun x hx => by
    obtain ⟨y, _, rfl⟩ := List.mem_map.1 hx
    exact Nat.mod_lt _ hv⟩
/-- What is multiplied and moved. -/
theorem lev_moved {v t s l : Nat} {D : List Nat} (hv : 0 < v) (hD : Pts v D) (hc : Nat.Coprime t v) (hL : DLev v D l) : DLev v (D.map (mvN v t s)) l := fun c hc0 => by
  obtain ⟨d, _, hd2⟩ := mul_onto hv hc c
  have hd0 : d % v ≠ 0 := fun h => hc0 (by rw [← hd2, Nat.mul_mod, h, Nat.mul_zero, Nat.zero_mod])
  rw [← hL d hd0]
  unfold me
  rw [List.countP_map]
  refine List.countP_congr fun b hb => ?_
  have e : (mvN v t s b + c) % v = mvN v t s ((b + d) % v) := by
    unfold mvN
    rw [Nat.mod_add_mod, ← Nat.add_mod_mod, ← hd2, Nat.add_mod_mod]
    have h1 : ((b + d) % v * t + s) % v = ((b + d) * t + s) % v := by
      rw [Nat.add_mod ((b + d) % v * t), Nat.mul_mod, Nat.mod_mod, ← Nat.mul_mod, ← Nat.add_mod]
    rw [h1, Nat.add_mul, Nat.mul_comm d t]
    congr 1
    omega
  show (D.map (mvN v t s)).contains ((mvN v t s b + c) % v) = true ↔ _
  rw [e, List.contains_iff_mem, List.contains_iff_mem]
  constructor
  · intro h
    obtain ⟨x, hx, e2⟩ := List.mem_map.1 h
    exact mv_inj hc (hD.lt x hx) (Nat.mod_lt _ hv) e2 ▸ hx
  · exact fun h => List.mem_map.2 ⟨_, h, rfl⟩
/-- What is developed. -/
theorem lev_dev {v l : Nat} {D : List Nat} (hv : 0 < v) (hD : Pts v D) (hL : DLev v D l) {B : List (List Nat)} (hB : B.length = v) (h : ∀ i, i < v → (B.getD i []).Perm (D.map (mvN v 1 i))) : Lev v B 2 l := fun q hq h2 => by
  obtain ⟨x, y, rfl⟩ : ∃ x y, q = [x, y] := by
    match q, h2 with
    | [x, y], _ => exact ⟨x, y, rfl⟩
  have hx := hq.lt x (by simp)
  have hy := hq.lt y (by simp)
  have hn : x ≠ y := by have := hq.nd; simpa using this
  have hin : ∀ i, i < v → ∀ z, z < v → ((B.getD i []).contains z = D.contains ((1 * z + (v - i)) % v)) := fun i hi z hz => by
    rw [Bool.eq_iff_iff, List.contains_iff_mem, List.contains_iff_mem, (h i hi).mem_iff, Nat.one_mul]
    constructor
    · intro hm
      obtain ⟨d, hd, rfl⟩ := List.mem_map.1 hm
      unfold mvN
      rw [Nat.mod_add_mod, show d * 1 + i + (v - i) = d + v by omega, Nat.add_mod_right, Nat.mod_eq_of_lt (hD.lt d hd)]
      exact hd
    · intro hm
      refine List.mem_map.2 ⟨_, hm, ?_⟩
      unfold mvN
      rw [Nat.mul_one, Nat.mod_add_mod, show z + (v - i) + i = z + v by omega, Nat.add_mod_right, Nat.mod_eq_of_lt hz]
  have e0 : B = (List.range v).map fun i => B.getD i [] := by
    refine List.ext_getElem (by simp [hB]) fun i h1 h2 => ?_
    rw [List.getElem_map, List.getElem_range, List.getD_eq_getElem?_getD, List.getElem?_eq_getElem h1]
    rfl
  have e1 : nb B [x, y] = me v D (1 * y + 1 * (v - x)) := by
    rw [← tG_pair hv hD hx y]
    unfold nb
    rw [e0, List.countP_map, dS_cnt]
    refine dS_congr fun i hi => ?_
    have hi := List.mem_range.1 hi
    show (if ([x, y].all fun z => (B.getD i []).contains z) = true then 1 else 0) = _
    simp only [List.all_cons, List.all_nil, Bool.and_true]
    rw [hin i hi x hx, hin i hi y hy]
    cases D.contains ((1 * x + (v - i)) % v) <;> cases D.contains ((1 * y + (v - i)) % v) <;> rfl
  rw [e1]
  exact hL _ fun g => hn ((zero_iff (Nat.coprime_one_left v) hx hy).1 g)
end Go.Proofs.YtmiinhbffiodmaaDoor
