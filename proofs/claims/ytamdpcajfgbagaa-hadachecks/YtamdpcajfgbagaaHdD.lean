/- The blocks of an even matrix of signs are a design; nothing of the program. -/
import Derived.Test.YtamdpcajfgbagaaHdP
import Derived.Test.YtamdpcajfgbagaaDPure
namespace Go.Proofs.Ytamdpcajfgbagaa

theorem sm_front (f : Nat → Int) : ∀ n, sm (n + 1) f = f 0 + sm n fun k => f (k + 1)
  | 0 => by simp [sm]
  | n + 1 => by rw [sm, sm_front f n, sm]; omega
theorem cnt_sm {f : Nat → Int} : ∀ {m : Nat}, (∀ k, k < m → Sg (f k)) → 2 * (((List.range m).countP fun k => f k == 1 : Nat) : Int) = m + sm m f
  | 0, _ => by simp [sm]
  | m + 1, h => by
    have ih := cnt_sm (m := m) fun k hk => h k (by omega)
    rw [List.range_succ, List.countP_append, sm, List.countP_singleton]
    rcases h m (by omega) with e | e <;> rw [e] <;> simp <;> omega
theorem cnt_sm2 {f g : Nat → Int} : ∀ {m : Nat}, (∀ k, k < m → Sg (f k)) → (∀ k, k < m → Sg (g k)) → 4 * (((List.range m).countP fun k => (f k == 1) && (g k == 1) : Nat) : Int) = m + sm m f + sm m g + sm m fun k => f k * g k
  | 0, _, _ => by simp [sm]
  | m + 1, h, h' => by
    have ih := cnt_sm2 (m := m) (fun k hk => h k (by omega)) (fun k hk => h' k (by omega))
    rw [List.range_succ, List.countP_append, sm, sm, sm, List.countP_singleton]
    rcases h m (by omega) with e | e <;> rcases h' m (by omega) with e' | e' <;> rw [e, e'] <;> simp <;> omega
/-- The blocks of an even matrix of the side v + 1. -/
def hbR (v : Nat) (E : Nat → Nat → Int) (i : Nat) : List Nat := (List.range v).filter fun j => E (i + 1) (j + 1) == 1
def hbL (v : Nat) (E : Nat → Nat → Int) : List (List Nat) := (List.range v).map (hbR v E)
section
variable {v t : Nat} {E : Nat → Nat → Int}
theorem hb_size (h : Had (v + 1) E) (r0 : ∀ j, j < v + 1 → E 0 j = 1) (c0 : ∀ i, i < v + 1 → E i 0 = 1) (ht : v + 1 = 4 * t) {i : Nat} (hi : i < v) : (hbR v E i).length = 2 * t - 1 := by
  have e0 : sm (v + 1) (fun k => E (i + 1) k) = 0 := by
    rw [← h.ort (i + 1) 0 (by omega) (by omega) (by omega)]
    exact sm_congr fun k hk => by rw [r0 k hk, Int.mul_one]
  rw [sm_front, c0 (i + 1) (by omega)] at e0
  have c := cnt_sm (f := fun j => E (i + 1) (j + 1)) (m := v) fun k hk => h.one (i + 1) (k + 1) (by omega) (by omega)
  unfold hbR
  rw [← List.countP_eq_length_filter]
  omega
theorem hb_lev (h : Had (v + 1) E) (r0 : ∀ j, j < v + 1 → E 0 j = 1) (c0 : ∀ i, i < v + 1 → E i 0 = 1) (ht : v + 1 = 4 * t) : Lev v (hbL v E) 2 (t - 1) := fun s hs hl => by
  match s, hl with
  | [x, y], _ =>
    have hx : x < v := hs.lt x (by simp)
    have hy : y < v := hs.lt y (by simp)
    have hn : x ≠ y := by
      have := hs.nd
      simp only [List.nodup_cons, List.mem_singleton] at this
      exact this.1
    have col : ∀ p, p < v → sm v (fun i => E (i + 1) (p + 1)) = -1 := fun p hp => by
      have e0 : sm (v + 1) (fun i => E i (p + 1)) = 0 := by
        rw [← h.cols (p := p + 1) (q := 0) (by omega) (by omega) (by omega)]
        exact sm_congr fun i hi => by rw [c0 i hi, Int.mul_one]
      rw [sm_front, r0 (p + 1) (by omega)] at e0
      omega
    have pr : sm v (fun i => E (i + 1) (x + 1) * E (i + 1) (y + 1)) = -1 := by
      have e0 := h.cols (p := x + 1) (q := y + 1) (by omega) (by omega) (by omega)
      rw [sm_front, r0 (x + 1) (by omega), r0 (y + 1) (by omega)] at e0
      omega
    have c := cnt_sm2 (f := fun i => E (i + 1) (x + 1)) (g := fun i => E (i + 1) (y + 1)) (m := v) (fun k hk => h.one (k + 1) (x + 1) (by omega) (by omega)) (fun k hk => h.one (k + 1) (y + 1) (by omega) (by omega))
    rw [col x hx, col y hy, pr] at c
    have e : nb (hbL v E) [x, y] = (List.range v).countP fun k => (E (k + 1) (x + 1) == 1) && (E (k + 1) (y + 1) == 1) := by
      unfold nb hbL
      rw [List.countP_map]
      refine List.countP_congr fun k _ => ?_
      simp [hbR, hx, hy]
    rw [e]
    omega
theorem hb_bls : Bls v (hbL v E) := fun b hb => by
  obtain ⟨i, _, rfl⟩ := List.mem_map.1 hb
  exact ⟨List.nodup_range.filter _, fun x hx => List.mem_range.1 (List.mem_filter.1 hx).1⟩
end

end Go.Proofs.Ytamdpcajfgbagaa
