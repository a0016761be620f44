/- The walk of the document's NextSet. -/
import Derived.Test.YtjfjdidibglhaaaDL
import Derived.Test.YtjfjdidibglhaaaDNext
namespace Go.Proofs.Ytjfjdidibglhaaa
open Go.RowKit

def fl (t : Nat) (f : Nat → Nat) : List Nat := (List.range t).map f
theorem fl_len (t : Nat) (f : Nat → Nat) : (fl t f).length = t := by simp [fl]
theorem fl_get {t : Nat} (f : Nat → Nat) {i : Nat} (h : i < t) : (fl t f).getD i 0 = f i := by simp [fl, h]
theorem fl_of (s : List Nat) : fl s.length (fun i => s.getD i 0) = s := by
  apply List.ext_getElem
  · simp [fl]
  · intro i h1 h2
    simp [fl, h2]
/-- What comes next, place by place. -/
def nxF (f : Nat → Nat) (i : Nat) (m : Nat) : Nat := if m < i then f m else f i + 1 + (m - i)
theorem nx_fun {v t i : Nat} {f : Nat → Nat} (hi : i < t) (hm : ∀ m, i < m → m < t → v ≤ f m + (t - m)) (hx : f i + (t - i) < v) : nx v (fl t f) = some (fl t (nxF f i)) := by
  rw [nx_at (i := i) (by rw [fl_len]; exact hi) (fun m h1 h2 => by
    rw [fl_len] at h2 ⊢
    rw [fl_get f h2]
    exact hm m h1 h2) (by rw [fl_len, fl_get f hi]; exact hx)]
  congr 1
  rw [fl_len, fl_get f hi]
  apply List.ext_getElem
  · simp [fl]; omega
  · intro m h1 h2
    have hmt : m < t := by simpa [fl] using h2
    rw [List.getElem_append]
    by_cases h : m < i
    · have h' : m < (List.take i (fl t f)).length := by rw [List.length_take, fl_len]; omega
      rw [dif_pos h']
      simp [fl, nxF, h]
    · have h' : ¬ m < (List.take i (fl t f)).length := by rw [List.length_take, fl_len]; omega
      rw [dif_neg h']
      have e : min i t = i := by omega
      simp [fl, nxF, h, e]
theorem nx_off {v t : Nat} {f : Nat → Nat} (hm : ∀ m, m < t → v ≤ f m + (t - m)) : nx v (fl t f) = none := nx_full fun m h => by
  rw [fl_len] at h ⊢
  rw [fl_get f h]
  exact hm m h
set_option maxHeartbeats 8000000 in
theorem NextSet_any (v t g cap : Nat) (f : Nat → Nat) (w : World) (h1 : 1 ≤ t) (h4 : t ≤ 8) (hv : v ≤ 40) (htv : t ≤ v) (hf : ∀ j, j < t → f j < v) (hO : Own w g t fun j => (f j : Int)) :
    Calls Try.prog 25 #[.slice (some ⟨g, 0, none⟩) t cap, .int .i64 (v : Int)] w fun e w' => ((∃ f', e = .returned (.bool true) ∧ nx v (fl t f) = some (fl t f') ∧ Own w' g t fun j => (f' j : Int)) ∨ (e = .returned (.bool false) ∧ nx v (fl t f) = none)) ∧ Below g w w' := by
  have HF : Hid (∀ j, j < t → f j < v) := hf
  clear hf
  go_enter Try.func25, Try.ntmps25
  go_wp2
  go_loopw [6] (fun iv wr => ∃ k : Nat, iv = .int .i64 ((k : Int) - 1) ∧ k ≤ t ∧ Hid (∀ m, k ≤ m → m < t → v ≤ f m + (t - m)) ∧ wr = w) (fun iv _ => (intOf iv + 1).toNat)
  case atStart => exact ⟨t, rfl, by omega, (show ∀ m, t ≤ m → m < t → _ from fun m h h' => by omega), rfl⟩
  case round =>
    obtain ⟨k, rfl, hk, HK, hw⟩ := hrel
    subst hw
    by_cases hk0 : k = 0
    · subst hk0
      have HN : Hid (nx v (fl t f) = none) := nx_off fun m hm => HK.out m (by omega) hm
      clear HK
      go_wp2
      go_ret
      exact ⟨.inr ⟨rfl, HN.out⟩, Below.refl _ _⟩
    · obtain ⟨i, rfl⟩ : ∃ i, k = i + 1 := ⟨k - 1, by omega⟩
      have hit : i < t := by omega
      have hiv : (((i + 1 : Nat) : Int) - 1) = (i : Int) := by omega
      have hid : decide ((0 : Int) ≤ (i : Int)) = true := by simp
      have hc := hO.cell i hit
      have hfr := hO.frozen i
      have hfi := HF.out i hit
      rw [hiv]
      have hii : (i : Int) < (t : Int) := by omega
      obtain ⟨c, hcc⟩ : ∃ c, c = v - t + i := ⟨_, rfl⟩
      have hs1 : (v : Int) - (t : Int) = ((v - t : Nat) : Int) := by omega
      have hs2 : ((v - t : Nat) : Int) + (i : Int) = (c : Int) := by omega
      have hc99 : c ≤ 99 := by omega
      by_cases hx : f i + (t - i) < v
      · have hdx : decide (((f i : Nat) : Int) < (c : Int)) = true := by simp; omega
        have HN : Hid (nx v (fl t f) = some (fl t (nxF f i))) := nx_fun hit (fun m hm1 hm2 => HK.out m (by omega) hm2) hx
        obtain ⟨A, HA⟩ : ∃ A, Hid (f i = A) := ⟨_, rfl⟩
        obtain ⟨A1, HA1⟩ : ∃ A1, Hid (A1 = A + 1) := ⟨_, (rfl : A + 1 = A + 1)⟩
        have hadd : (A : Int) + 1 = (A1 : Int) := by rw [HA1.out]; omega
        have hO2 := hO.set i (A1 : Int)
        rw [HA.out] at hdx hc hfi
        have hA99 : A ≤ 99 := by omega
        generalize v - t = vt at *
        have hdn : decide (A < c) = true := by simpa using hdx
        clear HK hiv hcc hk hk0 hx
        go_wp2
        go_loopw [7] (fun jv wr' => ∃ (j : Nat) (h : Nat → Int), jv = .int .i64 (j : Int) ∧ i < j ∧ j ≤ t ∧ Own wr' g t h ∧ Hid (∀ m, m < t → h m = if m < j then ((nxF f i m : Nat) : Int) else ((f m : Nat) : Int)) ∧ Below g wr wr') (fun jv _ => (t - intOf jv).toNat)
        case atStart => exact ⟨i + 1, _, by go_num, by omega, by omega, hO2, (show ∀ m, m < t → _ from fun m hm => by
            unfold upd nxF
            by_cases e : m = i
            · subst e; rw [if_pos rfl, if_pos (by omega), if_neg (by omega), HA1.out, HA.out]; simp
            · rw [if_neg e]
              by_cases h : m < i
              · rw [if_pos (by omega), if_pos h]
              · rw [if_neg (by omega)]), (Below.refl g wr).setCell (Nat.le_refl _) _⟩
        case round =>
          clear hO2 hc hfr hO
          obtain ⟨j, h, rfl, hij, hj, hO, HH, hB⟩ := hrel
          by_cases hlt : j < t
          · have hdj : decide ((j : Int) < (t : Int)) = true := by simp; omega
            have hji : (j : Int) < (t : Int) := by omega
            obtain ⟨j', rfl⟩ : ∃ j', j = j' + 1 := ⟨j - 1, by omega⟩
            have hsub : (((j' + 1 : Nat) : Int)) - 1 = (j' : Int) := by omega
            have hj'i : (j' : Int) < (t : Int) := by omega
            have hc1 := hO.cell j' (by omega)
            have hc2 := hO.cell (j' + 1) (by omega)
            have hf2 := hO.frozen (j' + 1)
            have e1 := HH.out j' (by omega)
            rw [if_pos (by omega)] at e1
            rw [e1] at hc1
            obtain ⟨C, HC⟩ : ∃ C, Hid (nxF f i j' = C) := ⟨_, rfl⟩
            obtain ⟨C1, HC1⟩ : ∃ C1, Hid (C1 = C + 1) := ⟨_, (rfl : C + 1 = C + 1)⟩
            have hadd2 : (C : Int) + 1 = (C1 : Int) := by rw [HC1.out]; omega
            have hC99 : C ≤ 99 := by rw [← HC.out]; unfold nxF; split <;> (try have := HF.out j' (by omega)) <;> (have := HA.out) <;> omega
            rw [HC.out] at hc1
            have hO3 := hO.set (j' + 1) (C1 : Int)
            have HH2 : Hid (∀ m, m < t → upd h (j' + 1) (C1 : Int) m = if m < j' + 1 + 1 then ((nxF f i m : Nat) : Int) else ((f m : Nat) : Int)) := fun m hm => by
              unfold upd
              by_cases e : m = j' + 1
              · subst e
                rw [if_pos rfl, if_pos (by omega), HC1.out, ← HC.out]
                unfold nxF
                rw [if_neg (by omega), if_neg (by omega)]
                omega
              · rw [if_neg e, HH.out m hm]
                by_cases h : m < j' + 1
                · rw [if_pos h, if_pos (by omega)]
                · rw [if_neg h, if_neg (by omega)]
            obtain ⟨J, hJ⟩ : ∃ J, J = j' + 1 := ⟨_, rfl⟩
            rw [← hJ] at hdj hji hsub hc2 hf2 hO3 HH2 ⊢
            have hJt : J < t := by omega
            have HJi : Hid (i < J) := by show i < J; omega
            clear e1 hJ HH hlt hij hj
            go_wp2
            go_roundw
            case rel => exact ⟨J + 1, _, by go_num, by have := HJi.out; omega, by omega, hO3, HH2, hB.setCell (Nat.le_refl _) _⟩
            case measure => simp [intOf]; omega
          · have hdj : decide ((j : Int) < (t : Int)) = false := by simp; omega
            obtain rfl : j = t := by omega
            have hO4 : Own wr g j fun m => ((nxF f i m : Nat) : Int) := hO.congr fun m hm => by rw [HH.out m hm, if_pos hm]
            have HO4 : Hid (Own wr g j fun m => ((nxF f i m : Nat) : Int)) := hO4
            clear hO HH hO4
            go_wp2
            go_ret
            exact ⟨.inl ⟨nxF f i, rfl, HN.out, HO4.out⟩, hB⟩
      · have hdx : decide (((f i : Nat) : Int) < (c : Int)) = false := by simp; omega
        have HK2 : Hid (∀ m, i ≤ m → m < t → v ≤ f m + (t - m)) := fun m h1 h2 => by
          by_cases e : m = i
          · subst e; omega
          · exact HK.out m (by omega) h2
        obtain ⟨A, HA⟩ : ∃ A, Hid (f i = A) := ⟨_, rfl⟩
        rw [HA.out] at hdx hc hfi
        have hdn : decide (A < c) = false := by simpa using hdx
        have hA99 : A ≤ 99 := by omega
        generalize v - t = vt at *
        clear HK hiv hcc hk hk0 hx
        go_wp2
        go_roundw
        case rel => exact ⟨i, by go_num, by omega, HK2, trivial⟩
        case measure => simp [intOf]
end Go.Proofs.Ytjfjdidibglhaaa
