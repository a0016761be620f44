/- The walk of the document's CostasOf. -/
import Derived.Test.YtmiinhbffiodmaaDoorRuB
import Derived.Test.YtmiinhbffiodmaaDoorB1
namespace Go.Proofs.YtmiinhbffiodmaaDoor
open Go.RowKit

set_option maxRecDepth 100000 in
set_option maxHeartbeats 16000000 in
theorem CostasOf_any (l : List Nat) (u : Value) (w : World) (hu : Sl w u (l.map Int.ofNat)) (h60 : l.length ≤ 99) (hb : ∀ x ∈ l, x ≤ 1000) :
    Calls Tryd.prog 9 #[u] w fun e w' => e = .returned (.bool (cosB l.length fun i => l.getD i 0)) ∧ Below w.heap.size w w' := by
  obtain ⟨a, ca, rfl, hA⟩ := sl_at hu
  obtain ⟨g, Hg⟩ : ∃ g, Hid (w.heap.size = g) := ⟨_, rfl⟩
  have HA : Hid (∀ i, i < l.length → ∃ b off, a = some ⟨b, off, none⟩ ∧ ∀ W, Below g w W → W.cell? ⟨b, off + i, none⟩ = some (.int .i64 ((l.getD i 0 : Nat) : Int))) := fun i hi => by
    obtain ⟨b, o, e, hc⟩ := hA i hi
    exact ⟨b, o, e, fun W bW => (bW.cell (by rw [← Hg.out]; exact World.block_lt_of_cell? _ _ hc)).trans hc⟩
  have HV : Hid (∀ i, i < l.length → l.getD i 0 ≤ 1000) := fun i hi => by
    rw [List.getD_eq_getElem?_getD, List.getElem?_eq_getElem hi]; exact hb _ (List.getElem_mem hi)
  obtain ⟨f, Hf⟩ : ∃ f : Nat → Nat, Hid (∀ i, l.getD i 0 = f i) := ⟨fun i => l.getD i 0, fun _ => rfl⟩
  have hfe : (fun i => l.getD i 0) = f := by funext i; exact Hf.out i
  rw [hfe]
  obtain ⟨r, Hr⟩ : ∃ r, Hid (cosB l.length f = r) := ⟨_, rfl⟩
  rw [Hr.out]
  have HI : Hid (r = true ↔ CosT l.length f) := by rw [← Hr.out]; exact cosB_iff
  have HA2 : Hid (∀ i, i < l.length → ∃ b off, a = some ⟨b, off, none⟩ ∧ ∀ W, Below g w W → W.cell? ⟨b, off + i, none⟩ = some (.int .i64 (f i : Int))) := fun i hi => by rw [← Hf.out]; exact HA.out i hi
  have HV2 : Hid (∀ i, i < l.length → f i ≤ 1000) := fun i hi => by rw [← Hf.out]; exact HV.out i hi
  have HNo : Hid (∀ i j k, i < j → i < k → k + (j - i) < l.length → f j + f k = f (k + (j - i)) + f i → r = false) := fun i j k h1 h2 h3 e => by
    rw [Bool.eq_false_iff]
    exact fun h => HI.out.1 h i j k h1 h2 h3 (by omega)
  have HYe : Hid ((∀ i j k, i < j → i < k → k + (j - i) < l.length → f j + f k ≠ f (k + (j - i)) + f i) → r = true) := fun h => HI.out.2 fun i j k h1 h2 h3 e => h i j k h1 h2 h3 (by omega)
  rw [Hg.out]
  have hgw : w.heap.size = g := Hg.out
  generalize l.length = n at *
  clear hu hA hb HI hfe Hf HA HV
  go_enter Tryd.func9, Tryd.ntmps9
  go_wp2
  go_loopw [3] (fun iv wr => ∃ i : Nat, iv = .int .i64 (i : Int) ∧ i ≤ n ∧ Hid (∀ i' j k, i' < i → i' < j → i' < k → k + (j - i') < n → f j + f k ≠ f (k + (j - i')) + f i') ∧ Below g w wr) (fun iv _ => (n - intOf iv).toNat)
  case atStart => exact ⟨0, rfl, by omega, (show ∀ i' j k, i' < 0 → _ from fun i' j k h => by omega), by rw [← hgw]; exact Below.refl _ _⟩
  case round =>
    obtain ⟨i, rfl, hi, HD1, hB⟩ := hrel
    by_cases hlt : i < n
    · have hii : (i : Int) < n := by omega
      have hdec : decide ((i : Int) < n) = true := by simp; omega
      clear HYe
      go_wp2
      go_loopw [4] (fun jv wr => ∃ j : Nat, jv = .int .i64 (j : Int) ∧ i + 1 ≤ j ∧ j ≤ n ∧ Hid (∀ j' k, j' < j → i < j' → i < k → k + (j' - i) < n → f j' + f k ≠ f (k + (j' - i)) + f i) ∧ Below g w wr) (fun jv _ => (n - intOf jv).toNat)
      case atStart => exact ⟨i + 1, by go_num, by omega, by omega, (show ∀ j' k, j' < i + 1 → _ from fun j' k h1 h2 => by omega), hB⟩
      case round =>
        clear hB
        obtain ⟨j, rfl, hj1, hj, HD2, hB⟩ := hrel
        by_cases hlj : j < n
        · have hjj : (j : Int) < n := by omega
          have hdej : decide ((j : Int) < n) = true := by simp; omega
          go_wp2
          go_loopw [5] (fun kv wr => ∃ k : Nat, kv = .int .i64 (k : Int) ∧ i + 1 ≤ k ∧ k ≤ n ∧ Hid (∀ k', k' < k → i < k' → k' + (j - i) < n → f j + f k' ≠ f (k' + (j - i)) + f i) ∧ Below g w wr) (fun kv _ => (n - intOf kv).toNat)
          case atStart => exact ⟨i + 1, by go_num, by omega, by omega, (show ∀ k', k' < i + 1 → _ from fun k' h1 h2 => by omega), hB⟩
          case round =>
            clear hB
            obtain ⟨k, rfl, hk1, hk, HD3, hB⟩ := hrel
            obtain ⟨m, Hm⟩ : ∃ m, Hid (k + (j - i) = m) := ⟨_, rfl⟩
            have hmi : (k : Int) + (j : Int) - (i : Int) = (m : Int) := by have := Hm.out; omega
            by_cases hlm : m < n
            · have hmm : (m : Int) < n := by omega
              have hdem : decide ((m : Int) < n) = true := by simp; omega
              have hkn : (k : Int) < n := by have := Hm.out; omega
              obtain ⟨b1, o1, rfl, c1⟩ := HA2.out i hlt
              obtain ⟨b2, o2, e2, c2⟩ := HA2.out j hlj
              obtain ⟨b3, o3, e3, c3⟩ := HA2.out k (by have := Hm.out; omega)
              obtain ⟨b4, o4, e4, c4⟩ := HA2.out m hlm
              obtain ⟨rfl, rfl⟩ : b1 = b2 ∧ o1 = o2 := by
                simp only [Option.some.injEq, Addr.mk.injEq] at e2
                exact ⟨e2.1, e2.2.1⟩
              obtain ⟨rfl, rfl⟩ : b1 = b3 ∧ o1 = o3 := by
                simp only [Option.some.injEq, Addr.mk.injEq] at e3
                exact ⟨e3.1, e3.2.1⟩
              obtain ⟨rfl, rfl⟩ : b1 = b4 ∧ o1 = o4 := by
                simp only [Option.some.injEq, Addr.mk.injEq] at e4
                exact ⟨e4.1, e4.2.1⟩
              have k1 := c1 _ hB
              have k2 := c2 _ hB
              have k3 := c3 _ hB
              have k4 := c4 _ hB
              have v1 := HV2.out i hlt
              have v2 := HV2.out j hlj
              have v3 := HV2.out k (by have := Hm.out; omega)
              have v4 := HV2.out m hlm
              have hno := HNo.out i j k (by omega) (by omega) (by rw [Hm.out]; exact hlm)
              rw [Hm.out] at hno
              obtain ⟨x1, X1⟩ : ∃ x, Hid (f i = x) := ⟨_, rfl⟩
              obtain ⟨x2, X2⟩ : ∃ x, Hid (f j = x) := ⟨_, rfl⟩
              obtain ⟨x3, X3⟩ : ∃ x, Hid (f k = x) := ⟨_, rfl⟩
              obtain ⟨x4, X4⟩ : ∃ x, Hid (f m = x) := ⟨_, rfl⟩
              rw [X1.out] at k1 v1 hno
              rw [X2.out] at k2 v2 hno
              rw [X3.out] at k3 v3 hno
              rw [X4.out] at k4 v4 hno
              clear e2 e3 e4 c1 c2 c3 c4 HA2 HV2 HNo
              by_cases he : x2 + x3 = x4 + x1
              · obtain rfl := hno he
                have q1 : ((x2 : Int) - (x1 : Int)) = ((x4 : Int) - (x3 : Int)) := by omega
                clear hno he HD1 HD2 HD3
                go_wp2
                go_quiet (fail)
                go_wp2
                go_ret
                exact ⟨by first | rfl | simp [q1], bdrewN hB _⟩
              · have q1 : ¬ ((x2 : Int) - (x1 : Int)) = ((x4 : Int) - (x3 : Int)) := by omega
                have q2 : (((x2 : Int) - (x1 : Int)) == ((x4 : Int) - (x3 : Int))) = false := by simpa using q1
                have HD4 : Hid (∀ k', k' < k + 1 → i < k' → k' + (j - i) < n → f j + f k' ≠ f (k' + (j - i)) + f i) := fun k' h1 h2 h3 => by
                  by_cases e : k' = k
                  · subst e; rw [Hm.out, X1.out, X2.out, X3.out, X4.out]; exact he
                  · exact HD3.out k' (by omega) h2 h3
                clear hno he HD1 HD2 HD3
                go_wp2
                go_quiet (fail)
                go_wp2
                go_roundw
                case rel => exact ⟨k + 1, by go_num, by omega, by have := Hm.out; omega, HD4, bdrewN hB _⟩
                case measure => simp [intOf]; have := Hm.out; omega
            · have hmm : ¬ (m : Int) < n := by omega
              have hdem : decide ((m : Int) < n) = false := by simp; omega
              have HD5 : Hid (∀ j' k, j' < j + 1 → i < j' → i < k → k + (j' - i) < n → f j' + f k ≠ f (k + (j' - i)) + f i) := fun j' k' h1 h2 h3 h4 => by
                by_cases e : j' = j
                · subst e; exact HD3.out k' (by have := Hm.out; omega) h3 h4
                · exact HD2.out j' k' (by omega) h2 h3 h4
              clear HD1 HD2 HD3 HA2 HV2 HNo
              go_wp2
              go_roundw
              case rel => exact ⟨j + 1, by go_num, by omega, by omega, HD5, hB⟩
              case measure => simp [intOf]; omega
        · have hdej : decide ((j : Int) < n) = false := by simp; omega
          have HD6 : Hid (∀ i' j k, i' < i + 1 → i' < j → i' < k → k + (j - i') < n → f j + f k ≠ f (k + (j - i')) + f i') := fun i' j' k' h1 h2 h3 h4 => by
            by_cases e : i' = i
            · subst e; exact HD2.out j' k' (by omega) h2 h3 h4
            · exact HD1.out i' j' k' (by omega) h2 h3 h4
          clear HD1 HD2 HA2 HV2 HNo
          go_wp2
          go_roundw
          case rel => exact ⟨i + 1, by go_num, by omega, HD6, hB⟩
          case measure => simp [intOf]; omega
    · have hdec : decide ((i : Int) < n) = false := by simp; omega
      obtain rfl := HYe.out fun i' j k h1 h2 h3 => HD1.out i' j k (by omega) h1 h2 h3
      go_wp2
      go_ret
      exact ⟨rfl, hB⟩

end Go.Proofs.YtmiinhbffiodmaaDoor
