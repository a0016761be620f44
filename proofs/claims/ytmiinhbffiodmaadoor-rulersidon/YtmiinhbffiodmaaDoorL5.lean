/- The law RulerSidon. -/
import Derived.Test.YtmiinhbffiodmaaDoorD4
namespace Go.Proofs.YtmiinhbffiodmaaDoor
open Go.RowKit Go.Maps

theorem sF_far {p : Int} {l : List Int} (h : 60 < p) : sF p l = 1 := if_pos (.inr h)
theorem last_le {D : List Nat} (h : D.Pairwise (· < ·)) {x : Nat} (hx : x ∈ D) : x ≤ D.getD (D.length - 1) 0 := by
  obtain ⟨i, hi, rfl⟩ := List.mem_iff_getElem.1 hx
  have := rise_le h (show i ≤ D.length - 1 by omega) (by omega)
  rw [List.getD_eq_getElem?_getD, List.getElem?_eq_getElem hi] at this
  exact this
set_option maxRecDepth 100000 in
set_option maxHeartbeats 8000000 in
theorem sidon_law (v : Int) (b : List Int) (u : Value) (w : World) (hT : Fd.Tab w) (hu : Sl w u b) (hr : ∀ a n c, u = .slice a n c → n ≤ c) (hbl : b.length ≤ maxLen) :
    Calls Tryd.prog 5 #[u, .int .i64 v] w fun e w' => e = .returned (.bool true) ∧ Below w.heap.size w w' := by
  have C0 := fact_any w hT
  by_cases hm : mF b = 0
  · obtain ⟨D, rfl, hD⟩ := mF_good hm
    have HC : Hid (∀ W, Below w.heap.size w W → Calls Tryd.prog 17 #[u] W fun e w' => e = .returned (.tuple #[.bool (golB D), .int .i64 0]) ∧ Below W.heap.size W w') := fun W hW => Check_good D u W (hu.below hW) hD hm
    obtain ⟨a, c, e0, hA⟩ := id hu
    rw [List.length_map] at e0
    subst e0
    have hcap := hr _ _ _ rfl
    by_cases h0 : D.length = 0
    · have hl0 : ((D.length : Int) == 0) = true := by simp [h0]
      rw [h0] at hl0 HC ⊢
      clear hm hD hA hT hr hbl hu h0 hcap
      go_enter Tryd.func5, Tryd.ntmps5
      go_wp2_with (first
        | (go_at_call 15; refine C0.mono ?_; rintro e w1 ⟨rfl, b1⟩; clear C0)
        | (go_at_call 17; refine (HC.out _ b1).mono ?_; rintro e w2 ⟨rfl, b2⟩; clear HC; replace b2 := Below.next b1 b2))
      go_ret
      exact ⟨rfl, b2⟩
    · obtain ⟨n, Hn⟩ : ∃ n, Hid (D.length = n + 1) := ⟨D.length - 1, (by omega : D.length = D.length - 1 + 1)⟩
      obtain ⟨g, o, rfl, hc0⟩ := hA n (by rw [List.length_map]; have := Hn.out; omega)
      rw [getD_of] at hc0
      have hlast : ∀ x ∈ D, x ≤ D.getD n 0 := fun x hx => by have := last_le hD.rise hx; rwa [show D.length - 1 = n by have := Hn.out; omega] at this
      have hlb : D.getD n 0 ≤ 1000000000 := hD.le _ (by
        have hn : n < D.length := by have := Hn.out; omega
        rw [List.getD_eq_getElem?_getD, List.getElem?_eq_getElem hn]; exact List.getElem_mem hn)
      have HCL : Hid (∀ W, Below w.heap.size w W → W.cell? ⟨g, o + n, none⟩ = some (.int .i64 ((D.getD n 0 : Nat) : Int))) := fun W hW => (hW.cell (World.block_lt_of_cell? _ _ hc0)).trans hc0
      have hn60 : n + 1 ≤ 60 := by have := hD.few; have := Hn.out; omega
      have hne : ¬ (n : Int) + 1 = 0 := by omega
      have hne' : (((n : Int) + 1) == 0) = false := by simp; omega
      by_cases hv : v ≤ 2 * ((D.getD n 0 : Nat) : Int)
      · obtain ⟨x, Hx⟩ : ∃ x, Hid (D.getD n 0 = x) := ⟨_, rfl⟩
        rw [Hx.out] at hv hlb HCL
        rw [Hn.out] at HC ⊢
        have hdv : decide (v ≤ 2 * (x : Int)) = true := by simpa using hv
        clear hm hD hA hT hr hbl hu h0 hcap hc0 hlast
        go_enter Tryd.func5, Tryd.ntmps5
        go_wp2_with (first
          | (go_at_call 15; refine C0.mono ?_; rintro e w1 ⟨rfl, b1⟩; clear C0)
          | (go_at_call 17; refine (HC.out _ b1).mono ?_; rintro e w2 ⟨rfl, b2⟩; clear HC; replace b2 := Below.next b1 b2; have hcl := HCL.out _ b2))
        go_ret
        exact ⟨rfl, b2⟩
      · by_cases h60 : 60 < v
        · have HS : Hid (∀ W, Below w.heap.size w W → Calls Tryd.prog 18 #[.slice (some ⟨g, o, none⟩) D.length c, .int .i64 v] W fun e w' => e = .returned (.tuple #[.bool false, .int .i64 1]) ∧ Below W.heap.size W w') := fun W hW => by
            have h := Sidon_bad v _ _ W (hu.below hW) hbl (by rw [sF_far h60]; omega)
            rw [sF_far h60] at h
            exact h
          obtain ⟨x, Hx⟩ : ∃ x, Hid (D.getD n 0 = x) := ⟨_, rfl⟩
          rw [Hx.out] at hv hlb HCL
          rw [Hn.out] at HC HS ⊢
          have hdv : decide (v ≤ 2 * (x : Int)) = false := by simpa using hv
          have hd6 : decide (60 < v) = true := by simpa using h60
          clear hm hD hA hT hr hbl hu h0 hcap hc0 hlast
          go_enter Tryd.func5, Tryd.ntmps5
          go_wp2_with (first
            | (go_at_call 15; refine C0.mono ?_; rintro e w1 ⟨rfl, b1⟩; clear C0)
            | (go_at_call 17; refine (HC.out _ b1).mono ?_; rintro e w2 ⟨rfl, b2⟩; clear HC; replace b2 := Below.next b1 b2; have hcl := HCL.out _ b2)
            | (go_at_call 18; refine (HS.out _ b2).mono ?_; rintro e w3 ⟨rfl, b3⟩; clear HS; replace b3 := Below.next b2 b3))
          go_ret
          exact ⟨rfl, b3⟩
        · obtain ⟨V, rfl⟩ : ∃ V : Nat, v = V := ⟨v.toNat, by omega⟩
          have hG : GoodS V D := ⟨by omega, by omega, hD.rise, fun x hx => by have := hlast x hx; omega⟩
          have hsid := gol_sid (v := V) hD.rise (fun x hx => by have := hlast x hx; omega)
          have HS : Hid (∀ W, Below w.heap.size w W → Calls Tryd.prog 18 #[.slice (some ⟨g, o, none⟩) D.length c, .int .i64 (V : Int)] W fun e w' => e = .returned (.tuple #[.bool (golB D), .int .i64 0]) ∧ Below W.heap.size W w') := fun W hW => by
            have h := Sidon_good V D _ c W (hu.below hW) hcap hG
            rw [← hsid] at h
            exact h
          obtain ⟨x, Hx⟩ : ∃ x, Hid (D.getD n 0 = x) := ⟨_, rfl⟩
          rw [Hx.out] at hv hlb HCL
          rw [Hn.out] at HC HS ⊢
          obtain ⟨q, Hq⟩ : ∃ q, Hid (golB D = q) := ⟨_, rfl⟩
          rw [Hq.out] at HC HS
          have hdv : decide ((V : Int) ≤ 2 * (x : Int)) = false := by simpa using hv
          have hqq : (q == q) = true := by simp
          clear hm hD hA hT hr hbl hu h0 hcap hc0 hlast hsid hG
          go_enter Tryd.func5, Tryd.ntmps5
          go_wp2_with (first
            | (go_at_call 15; refine C0.mono ?_; rintro e w1 ⟨rfl, b1⟩; clear C0)
            | (go_at_call 17; refine (HC.out _ b1).mono ?_; rintro e w2 ⟨rfl, b2⟩; clear HC; replace b2 := Below.next b1 b2; have hcl := HCL.out _ b2)
            | (go_at_call 18; refine (HS.out _ b2).mono ?_; rintro e w3 ⟨rfl, b3⟩; clear HS; replace b3 := Below.next b2 b3))
          go_ret
          exact ⟨by simp, b3⟩
  · have HC : Hid (∀ W, Below w.heap.size w W → Calls Tryd.prog 17 #[u] W fun e w' => e = .returned (.tuple #[.bool false, .int .i64 (mF b : Int)]) ∧ Below W.heap.size W w') := fun W hW => Check_bad b u W (hu.below hW) hm
    obtain ⟨z, Hz⟩ : ∃ z, Hid (mF b = z) := ⟨_, rfl⟩
    rw [Hz.out] at HC hm
    have hz : ((z : Int) != 0) = true := by simpa using hm
    have hz2 : ¬ (z : Int) = 0 := by omega
    clear hT hr hbl hu
    go_enter Tryd.func5, Tryd.ntmps5
    go_wp2_with (first
      | (go_at_call 15; refine C0.mono ?_; rintro e w1 ⟨rfl, b1⟩; clear C0)
      | (go_at_call 17; refine (HC.out _ b1).mono ?_; rintro e w2 ⟨rfl, b2⟩; clear HC; replace b2 := Below.next b1 b2))
    go_ret
    exact ⟨rfl, b2⟩

end Go.Proofs.YtmiinhbffiodmaaDoor
