/- Rows of points: how many there are, and whether all are reached; nothing of the program. -/
import Derived.Test.YtnbkabggmomhlaaGPrim
namespace Go.Proofs.Ytnbkabggmomhlaa

/-- n (n - 1) .. -/
def rowsN (n : Nat) : Nat → Nat
  | 0 => 1
  | t + 1 => rowsN n t * (n - t)
theorem rowsN_pos {n : Nat} : ∀ {t : Nat}, t ≤ n → 1 ≤ rowsN n t
  | 0, _ => Nat.le_refl _
  | t + 1, h => Nat.mul_pos (rowsN_pos (by omega)) (by omega)
def allR (n : Nat) : Nat → List (List Nat)
  | 0 => [[]]
  | t + 1 => (allR n t).flatMap fun r => ((List.range n).filter fun x => !r.contains x).map fun x => r ++ [x]
theorem mem_allR {n : Nat} : ∀ {t : Nat} {r : List Nat}, r ∈ allR n t ↔ r.length = t ∧ r.Nodup ∧ ∀ x ∈ r, x < n
  | 0, r => by
    unfold allR
    rw [List.mem_singleton]
    constructor
    · rintro rfl; simp
    · rintro ⟨h, _⟩; exact List.length_eq_zero_iff.1 h
  | t + 1, r => by
    unfold allR
    rw [List.mem_flatMap]
    constructor
    · rintro ⟨p, hp, hr⟩
      obtain ⟨x, hx, rfl⟩ := List.mem_map.1 hr
      obtain ⟨h1, h2, h3⟩ := mem_allR.1 hp
      rw [List.mem_filter, List.mem_range] at hx
      have hx2 : x ∉ p := by simpa using hx.2
      refine ⟨by simp [h1], List.nodup_append.2 ⟨h2, by simp, fun a ha b hb => ?_⟩, fun y hy => ?_⟩
      · obtain rfl : b = x := by simpa using hb
        exact fun e => hx2 (e ▸ ha)
      · rcases List.mem_append.1 hy with h | h
        · exact h3 y h
        · obtain rfl : y = x := by simpa using h
          exact hx.1
    · rintro ⟨h1, h2, h3⟩
      have hne : r ≠ [] := by intro e; rw [e] at h1; simp at h1
      obtain ⟨p, x, rfl⟩ : ∃ p x, r = p ++ [x] := ⟨r.dropLast, r.getLast hne, (List.dropLast_concat_getLast hne).symm⟩
      obtain ⟨n1, _, n3⟩ := List.nodup_append.1 h2
      refine ⟨p, mem_allR.2 ⟨by simpa using h1, n1, fun y hy => h3 y (by simp [hy])⟩, List.mem_map.2 ⟨x, ?_, rfl⟩⟩
      rw [List.mem_filter, List.mem_range]
      refine ⟨h3 x (by simp), ?_⟩
      have : x ∉ p := fun h => n3 x h x (by simp) rfl
      simpa using this
theorem left_len {n : Nat} {r : List Nat} (nd : r.Nodup) (hr : ∀ x ∈ r, x < n) : ((List.range n).filter fun x => !r.contains x).length = n - r.length := by
  have h1 : ((List.range n).filter fun x => r.contains x).length = r.length := by
    refine List.Perm.length_eq ((List.perm_ext_iff_of_nodup (List.nodup_range.filter _) nd).2 fun x => ?_)
    rw [List.mem_filter, List.mem_range]
    simp only [List.contains_eq_mem, decide_eq_true_eq]
    exact ⟨fun h => h.2, fun h => ⟨hr x h, h⟩⟩
  have h2 : ∀ (p : Nat → Bool) (l : List Nat), (l.filter p).length + (l.filter fun x => !p x).length = l.length := fun p l => by
    induction l with
    | nil => rfl
    | cons a l ih =>
      rw [List.filter_cons, List.filter_cons, List.length_cons]
      cases h : p a <;> simp <;> omega
  have h3 := h2 (fun x => r.contains x) (List.range n)
  rw [List.length_range, h1] at h3
  omega
theorem flat_len {α β : Type} (f : α → List β) (k : Nat) : ∀ L : List α, (∀ a ∈ L, (f a).length = k) → (L.flatMap f).length = L.length * k
  | [], _ => by simp
  | a :: L, h => by
    rw [List.flatMap_cons, List.length_append, h a (by simp), flat_len f k L (fun b hb => h b (by simp [hb])), List.length_cons, Nat.succ_mul, Nat.add_comm]
theorem len_allR {n : Nat} : ∀ t, (allR n t).length = rowsN n t
  | 0 => rfl
  | t + 1 => by
    unfold allR rowsN
    rw [flat_len _ (n - t), len_allR t]
    intro r hr
    obtain ⟨h1, h2, h3⟩ := mem_allR.1 hr
    rw [List.length_map, left_len h2 h3, h1]
/-- Where the rows that are reached are all, each is reached. -/
theorem full_iff {n t : Nat} {I : List (List Nat)} (nd : I.Nodup) (hI : ∀ r ∈ I, r ∈ allR n t) : I.length ≤ rowsN n t ∧ (I.length = rowsN n t ↔ ∀ r ∈ allR n t, r ∈ I) := by
  have h1 := nd.length_le_of_subset hI
  rw [len_allR] at h1
  refine ⟨h1, fun e r hr => Classical.byContradiction fun hn => ?_, fun h => ?_⟩
  · have hsub : I ⊆ (allR n t).erase r := fun x hx => by
      have hne : x ≠ r := fun e => hn (e ▸ hx)
      exact (List.mem_erase_of_ne hne).2 (hI x hx)
    have h2 := nd.length_le_of_subset hsub
    rw [List.length_erase_of_mem hr, len_allR] at h2
    have h3 : 0 < (allR n t).length := List.length_pos_iff.2 fun e => by rw [e] at hr; cases hr
    rw [len_allR] at h3
    omega
  · have key : (allR n t).length ≤ I.length := by
      -- all rows are unlike
      have ndA : (allR n t).Nodup := by
        clear hI h nd h1
        induction t with
        | zero => simp [allR]
        | succ t ih =>
          unfold allR
          rw [List.nodup_iff_pairwise_ne, List.pairwise_flatMap]
          refine ⟨fun r hr => ?_, ?_⟩
          · rw [← List.nodup_iff_pairwise_ne]
            refine nodup_map (List.nodup_range.filter _) fun a _ b _ e => ?_
            simpa using e
          · refine List.Pairwise.imp_of_mem (fun {a b} ha hb hab => ?_) ih
            intro x hx y hy e
            obtain ⟨u, _, rfl⟩ := List.mem_map.1 hx
            obtain ⟨v, _, rfl⟩ := List.mem_map.1 hy
            have la := (mem_allR.1 ha).1
            have lb := (mem_allR.1 hb).1
            exact hab (List.append_inj_left e (by omega))
      exact ndA.length_le_of_subset h
    rw [len_allR] at key
    omega
theorem take_row {n t : Nat} {a : List Nat} (ha : IsP n a) (ht : t ≤ n) : a.take t ∈ allR n t := mem_allR.2 ⟨by rw [List.length_take, ha.len]; omega, ha.nd.take, fun x hx => ha.lt x (List.mem_of_mem_take hx)⟩
theorem moves_iff {n t : Nat} {G : List Nat → Prop} (hG : Grp n G) (ht : t ≤ n) : Moves n G t ↔ rowsN n t * (els n fun h => G h ∧ ∀ i, i < t → h.getD i 0 = i).length = (els n G).length := by
  obtain ⟨I, nd, hI, hlen⟩ := deep_count hG ht
  have hsub : ∀ r ∈ I, r ∈ allR n t := fun r hr => by
    obtain ⟨a, ha, rfl⟩ := (hI r).1 hr
    exact take_row (hG.isP a ha) ht
  obtain ⟨_, h2⟩ := full_iff nd hsub
  have hpos : 1 ≤ (els n fun h => G h ∧ ∀ i, i < t → h.getD i 0 = i).length := List.length_pos_iff.2 fun e => by
    have : idL n ∈ els n (fun h => G h ∧ ∀ i, i < t → h.getD i 0 = i) := mem_els.2 ⟨isP_id n, hG.one, fun i hi => idL_at (by omega)⟩
    rw [e] at this; cases this
  have h3 : Moves n G t ↔ ∀ r ∈ allR n t, r ∈ I := by
    constructor
    · intro h r hr
      obtain ⟨k1, k2, k3⟩ := mem_allR.1 hr
      exact (hI r).2 (h r k1 k2 k3)
    · intro h r k1 k2 k3
      exact (hI r).1 (h r (mem_allR.2 ⟨k1, k2, k3⟩))
  rw [h3, ← h2, hlen, Nat.mul_comm]
  constructor
  · intro e; rw [e]
  · intro e; exact (Nat.eq_of_mul_eq_mul_left hpos e).symm
/-- How many points at once go everywhere. -/
def DeepIs (n : Nat) (ms : List (List Nat)) (d : Nat) : Prop := d ≤ n ∧ (∀ t, 1 ≤ t → t ≤ d → Moves n (Gen n ms) t) ∧ (d < n → ¬ Moves n (Gen n ms) (d + 1))
theorem DeepIs.one {n : Nat} {ms : List (List Nat)} {d e : Nat} (h : DeepIs n ms d) (k : DeepIs n ms e) : d = e := by
  rcases Nat.lt_trichotomy d e with h1 | h1 | h1
  · exact absurd (k.2.1 (d + 1) (by omega) (by omega)) (h.2.2 (by have := k.1; omega))
  · exact h1
  · exact absurd (h.2.1 (e + 1) (by omega) (by omega)) (k.2.2 (by have := h.1; omega))
theorem DeepIs.dvd {n : Nat} {ms : List (List Nat)} {d : Nat} (hm : ∀ m ∈ ms, IsP n m) (h : DeepIs n ms d) : rowsN n d ∣ (els n (Gen n ms)).length := by
  by_cases h0 : d = 0
  · subst h0; exact Nat.one_dvd _
  · exact ⟨_, ((moves_iff (gen_grp hm) h.1).1 (h.2.1 d (by omega) (Nat.le_refl _))).symm⟩
/-- What moves two points everywhere is primitive. -/
theorem DeepIs.prim {n : Nat} {ms : List (List Nat)} {d : Nat} (hm : ∀ m ∈ ms, IsP n m) (h : DeepIs n ms d) (h2 : 2 ≤ d) : Prim n ms := by
  have hn := h.1
  have hG := gen_grp hm
  have M2 := h.2.1 2 (by omega) h2
  refine ⟨by omega, fun x hx => ?_, fun c hk ⟨x, y, hx, hy, hxy, e⟩ => M2.uncut hG (fun a ha => gen_keeps hm hk ha) hx hy hxy e⟩
  have M1 := h.2.1 1 (by omega) (by omega)
  obtain ⟨a, ha, e⟩ := M1 [x] rfl (by simp) (by simpa using hx)
  refine ⟨a, ha, ?_⟩
  have hl := (hG.isP a ha).len
  match a, hl, e with
  | b :: a, _, e => simpa using e
  | [], hl, _ => simp at hl; omega

end Go.Proofs.Ytnbkabggmomhlaa
