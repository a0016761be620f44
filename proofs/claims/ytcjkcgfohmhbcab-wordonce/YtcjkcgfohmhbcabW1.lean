/- The document's Ahead, walked. -/
import Derived.Test.YtcjkcgfohmhbcabP14
import Derived.Test.YtcjkcgfohmhbcabDL
import Derived.Test.YtcjkcgfohmhbcabWdF
namespace Go.Proofs.Ytcjkcgfohmhbcab
open Go.RowKit

theorem nat_at (s : List Nat) (a : Nat) : (s.map Int.ofNat).getD a 0 = ((s.getD a 0 : Nat) : Int) := by
  rw [List.getD_eq_getElem?_getD, List.getD_eq_getElem?_getD, List.getElem?_map]
  cases s[a]? <;> rfl
/-- A word as it lies, with room. -/
def Wd (w : World) (v : Value) (M : List Nat) : Prop := ∃ (a : Option Addr) (c : Nat), v = .slice a M.length c ∧ M.length ≤ c ∧ ∀ j, j < M.length → ∃ b o, a = some ⟨b, o, none⟩ ∧ w.cell? ⟨b, o + j, none⟩ = some (.int .i64 ((M.getD j 0 : Nat) : Int))
theorem Wd.below {w w' : World} {v : Value} {M : List Nat} (h : Wd w v M) (hb : Below w.heap.size w w') : Wd w' v M := by
  obtain ⟨a, c, e, h0, h⟩ := h
  refine ⟨a, c, e, h0, fun j hj => ?_⟩
  obtain ⟨b, o, e1, e2⟩ := h j hj
  exact ⟨b, o, e1, (hb.cell (World.block_lt_of_cell? _ _ e2)).trans e2⟩
theorem Wd.sl {w : World} {v : Value} {M : List Nat} (h : Wd w v M) : Sl w v (M.map Int.ofNat) := by
  obtain ⟨a, c, e, _, h⟩ := h
  refine ⟨a, c, by rw [List.length_map]; exact e, fun j hj => ?_⟩
  obtain ⟨b, o, e1, e2⟩ := h j (by simpa using hj)
  exact ⟨b, o, e1, by rw [nat_at]; exact e2⟩
theorem ahB_drop {s t : List Nat} {i : Nat} (h1 : i < s.length) (h2 : i < t.length) : ahB (s.drop i) (t.drop i) = if s.getD i 0 = t.getD i 0 then ahB (s.drop (i + 1)) (t.drop (i + 1)) else decide (s.getD i 0 < t.getD i 0) := by
  rw [List.drop_eq_getElem_cons h1, List.drop_eq_getElem_cons h2, List.getD_eq_getElem?_getD, List.getD_eq_getElem?_getD, List.getElem?_eq_getElem h1, List.getElem?_eq_getElem h2]
  simp only [Option.getD_some]
  show (decide (s[i] < t[i]) || (s[i] == t[i] && ahB (s.drop (i + 1)) (t.drop (i + 1)))) = _
  by_cases e : s[i] = t[i]
  · rw [if_pos e, e]; simp
  · rw [if_neg e]; simp [e]
theorem ahB_end {s t : List Nat} {i : Nat} (h : i = s.length ∨ i = t.length) (h1 : i ≤ s.length) (h2 : i ≤ t.length) : ahB (s.drop i) (t.drop i) = decide (s.length < t.length) := by
  rcases h with h | h
  · rw [List.drop_of_length_le (by omega)]
    by_cases e : s.length < t.length
    · rw [decide_eq_true e]
      have : t.drop i ≠ [] := fun k => by have := congrArg List.length k; rw [List.length_drop] at this; simp at this; omega
      cases hd : t.drop i with
      | nil => exact absurd hd this
      | cons a x => rfl
    · rw [decide_eq_false e, List.drop_of_length_le (by omega)]
      rfl
  · rw [List.drop_of_length_le (l := t) (by omega), decide_eq_false (by omega)]
    cases s.drop i <;> rfl
set_option maxRecDepth 100000 in
set_option maxHeartbeats 4000000 in
theorem Ahead_any (s t : List Nat) (u v : Value) (w : World) (hu : Sl w u (s.map Int.ofNat)) (hv : Sl w v (t.map Int.ofNat)) (hs : s.length ≤ 9999) (ht : t.length ≤ 9999) :
    Calls Try.prog 10 #[u, v] w fun e w' => e = .returned (.bool (ahB s t)) ∧ Below w.heap.size w w' := by
  obtain ⟨a, ca, rfl, hA⟩ := hu
  obtain ⟨b, cb, rfl, hB⟩ := hv
  rw [List.length_map] at hA hB ⊢
  rw [List.length_map]
  have HA : Hid (∀ W, Below w.heap.size w W → ∀ i, i < s.length → ∃ b off, a = some ⟨b, off, none⟩ ∧ W.cell? ⟨b, off + i, none⟩ = some (.int .i64 ((s.getD i 0 : Nat) : Int))) := fun W bW i hi => by
    obtain ⟨b, o, e, hc⟩ := hA i hi
    exact ⟨b, o, e, by rw [← nat_at]; exact (bW.cell (World.block_lt_of_cell? _ _ hc)).trans hc⟩
  have HB : Hid (∀ W, Below w.heap.size w W → ∀ i, i < t.length → ∃ c off, b = some ⟨c, off, none⟩ ∧ W.cell? ⟨c, off + i, none⟩ = some (.int .i64 ((t.getD i 0 : Nat) : Int))) := fun W bW i hi => by
    obtain ⟨b, o, e, hc⟩ := hB i hi
    exact ⟨b, o, e, by rw [← nat_at]; exact (bW.cell (World.block_lt_of_cell? _ _ hc)).trans hc⟩
  have HD : Hid (∀ i, i < s.length → i < t.length → ahB (s.drop i) (t.drop i) = if s.getD i 0 = t.getD i 0 then ahB (s.drop (i + 1)) (t.drop (i + 1)) else decide (s.getD i 0 < t.getD i 0)) := fun i h1 h2 => ahB_drop h1 h2
  have HE : Hid (∀ i, i = s.length ∨ i = t.length → i ≤ s.length → i ≤ t.length → ahB (s.drop i) (t.drop i) = decide (s.length < t.length)) := fun i h h1 h2 => ahB_end h h1 h2
  obtain ⟨z, Hz⟩ : ∃ z, Hid (ahB s t = z) := ⟨_, rfl⟩
  rw [Hz.out]
  have Hz0 : Hid (ahB (s.drop 0) (t.drop 0) = z) := Hz.out
  obtain ⟨n, Hn⟩ : ∃ n, Hid (s.length = n) := ⟨_, rfl⟩
  obtain ⟨m, Hm⟩ : ∃ m, Hid (t.length = m) := ⟨_, rfl⟩
  rw [Hn.out] at HA HD HE hs
  rw [Hm.out] at HB HD HE ht
  rw [Hn.out, Hm.out]
  clear hA hB
  go_enter Try.func10, Try.ntmps10
  go_wp2
  go_loopw [5] (fun iv wr => ∃ (i : Nat), iv = .int .i64 (i : Int) ∧ i ≤ n ∧ i ≤ m ∧ Hid (ahB (s.drop i) (t.drop i) = z) ∧ Below w.heap.size w wr) (fun iv _ => (n - intOf iv).toNat)
  case atStart => exact ⟨0, rfl, by omega, by omega, Hz0, Below.refl _ _⟩
  case round =>
    obtain ⟨i, rfl, hi, hi2, Hi, hw⟩ := hrel
    by_cases hlt : i < n
    · have hdi : decide ((i : Int) < (n : Int)) = true := by simp; omega
      have hii : (i : Int) < (n : Int) := by omega
      by_cases hlt2 : i < m
      · have hdi2 : decide ((i : Int) < (m : Int)) = true := by simp; omega
        have hii2 : (i : Int) < (m : Int) := by omega
        obtain ⟨b1, o1, rfl, c1⟩ := HA.out wr hw i hlt
        obtain ⟨b2, o2, rfl, c2⟩ := HB.out wr hw i hlt2
        have hd := HD.out i hlt hlt2
        rw [Hi.out] at hd
        obtain ⟨x, hx⟩ : ∃ x, Hid (s.getD i 0 = x) := ⟨_, rfl⟩
        obtain ⟨y, hy⟩ : ∃ y, Hid (t.getD i 0 = y) := ⟨_, rfl⟩
        rw [hx.out] at c1 hd
        rw [hy.out] at c2 hd
        by_cases h0 : x = y
        · subst h0
          rw [if_pos rfl] at hd
          have Hd : Hid (ahB (s.drop (i + 1)) (t.drop (i + 1)) = z) := hd.symm
          have hne : ((x : Int) != (x : Int)) = false := by simp
          clear hd
          go_wp2
          go_quiet (fail)
          go_wp2
          go_roundw
          case rel => exact ⟨i + 1, by go_num, by omega, by omega, Hd, hw.trans ⟨rfl, rfl, rfl, Nat.le_refl _, fun _ _ => rfl⟩⟩
          case measure => simp [intOf]; omega
        · have hne : ((x : Int) != (y : Int)) = true := by simp; omega
          have hne2 : ¬ (x : Int) = (y : Int) := by omega
          rw [if_neg h0] at hd
          have HZ : Hid (z = decide (x < y)) := hd
          clear hd h0
          by_cases h1 : x < y
          · have hd1 : decide ((x : Int) < (y : Int)) = true := by simp; omega
            go_wp2
            go_quiet (fail)
            go_wp2
            go_quiet (fail)
            go_wp2
            go_ret
            exact ⟨by rw [HZ.out, decide_eq_true h1]; rfl, hw.trans ⟨rfl, rfl, rfl, Nat.le_refl _, fun _ _ => rfl⟩⟩
          · have hd1 : decide ((x : Int) < (y : Int)) = false := by simp; omega
            go_wp2
            go_quiet (fail)
            go_wp2
            go_quiet (fail)
            go_wp2
            go_ret
            exact ⟨by rw [HZ.out, decide_eq_false h1]; rfl, hw.trans ⟨rfl, rfl, rfl, Nat.le_refl _, fun _ _ => rfl⟩⟩
      · have hdi2 : decide ((i : Int) < (m : Int)) = false := by simp; omega
        have hz := HE.out i (.inr (by omega)) hi hi2
        rw [Hi.out] at hz
        have hnm : decide ((n : Int) < (m : Int)) = false := by simp; omega
        go_wp2
        go_ret
        exact ⟨by rw [hz, decide_eq_false (by omega)]; rfl, hw⟩
    · have hdi : decide ((i : Int) < (n : Int)) = false := by simp; omega
      have hz := HE.out i (.inl (by omega)) hi hi2
      rw [Hi.out] at hz
      by_cases hnm : n < m
      · have hd1 : decide ((n : Int) < (m : Int)) = true := by simp; omega
        go_wp2
        go_ret
        exact ⟨by rw [hz, decide_eq_true hnm]; rfl, hw⟩
      · have hd1 : decide ((n : Int) < (m : Int)) = false := by simp; omega
        go_wp2
        go_ret
        exact ⟨by rw [hz, decide_eq_false hnm]; rfl, hw⟩
end Go.Proofs.Ytcjkcgfohmhbcab
