/- The walk of the document's ArcOf. -/
import Derived.Test.YtgpkhfpejopacaaDoorPA1
import Derived.Deep.QuietTactic
import Derived.BigQuiet
namespace Go.Proofs.YtgpkhfpejopacaaDoor
open Go.RowKit

theorem undD : ∃ d, Tryd.prog.underlying 29 = some d ∧ d.isRow = true := ⟨_, Tryd.underlying29, rfl⟩
theorem infD2 (x y : Value) : (Tryd.prog.info? 29).map (·.size) = some (#[x, y] : Array Value).size := by kernel_rfl
set_option maxRecDepth 100000 in
set_option maxHeartbeats 16000000 in
theorem ArcOf_any (v : Nat) (B : List (List Nat)) (b : List Int) (q : Bool) (u lv : Value) (w : World) (G : GoodD v B) (hu : Rw w u (toZ B)) (hl : Sl w lv b) (hbl : b.length ≤ maxLen)
    (hq1 : bF (v : Int) b = 0 → ∀ W, Below w.heap.size w W → Calls Tryd.prog 46 #[.agg #[.int .i64 (v : Int), u], lv] W fun e w' => e = .returned (.bool (!q)) ∧ Below W.heap.size W w') (hq0 : bF (v : Int) b ≠ 0 → q = false) :
    Calls Tryd.prog 23 #[.agg #[.int .i64 (v : Int), u], lv] w fun e w' => e = .returned (.tuple #[.bool q, .int .i64 (bF (v : Int) b : Int)]) ∧ Below w.heap.size w w' := by
  unfold maxLen at hbl
  obtain ⟨a, cap, rfl, hD⟩ := drow_of hu
  have h40 := G.le
  obtain ⟨la, lc, rfl, hlb⟩ := id hl
  have HLB : Hid (∀ j, j < b.length → ∃ g o, la = some ⟨g, o, none⟩ ∧ ∀ W, Below w.heap.size w W → W.cell? ⟨g, o + j, none⟩ = some (.int .i64 (b.getD j 0))) := fun j hj => by
    obtain ⟨g, o, e, hc⟩ := hlb j hj
    exact ⟨g, o, e, fun W bW => (bW.cell (World.block_lt_of_cell? _ _ hc)).trans hc⟩
  have HO : Hid (∀ j, j < b.length → ¬ (0 ≤ b.getD j 0 ∧ b.getD j 0 < (v : Int)) → bF (v : Int) b = 1) := fun j hj h => bF_out hj h
  have HFA : Hid ((∀ j, j < b.length → 0 ≤ b.getD j 0 ∧ b.getD j 0 < (v : Int)) → ∀ j, 1 ≤ j → j < b.length → b.getD j 0 ≤ b.getD (j - 1) 0 → bF (v : Int) b = 2) := fun h j h1 hj hf => bF_fall h h1 hj hf
  have HOK : Hid ((∀ j, j < b.length → 0 ≤ b.getD j 0 ∧ b.getD j 0 < (v : Int)) → (∀ j, 1 ≤ j → j < b.length → b.getD (j - 1) 0 < b.getD j 0) → bF (v : Int) b = 0) := fun h hr => bF_ok h hr
  obtain ⟨z, HZ⟩ : ∃ z, Hid (bF (v : Int) b = z) := ⟨_, rfl⟩
  rw [HZ.out] at HO HFA HOK hq1 hq0 ⊢
  have HQ1 : Hid (z = 0 → ∀ W, Below w.heap.size w W → Calls Tryd.prog 46 #[.agg #[.int .i64 (v : Int), .slice a B.length cap], .slice la b.length lc] W fun e w' => e = .returned (.bool (!q)) ∧ Below W.heap.size W w') := hq1
  have HQ0 : Hid (z ≠ 0 → q = false) := hq0
  have HBX : Hid (∀ W, Below (w.alloc (.cells #[.int .i64 (v : Int), .slice a B.length cap] 29)).heap.size (w.alloc (.cells #[.int .i64 (v : Int), .slice a B.length cap] 29)) W → W.heap[w.heap.size]? = some (.cells #[.int .i64 (v : Int), .slice a B.length cap] 29 (0, 0))) := fun W hW => (hW.block w.heap.size (by simp)).trans (heap_alloc_new w _)
  have HC : Hid (∀ W, Below (w.alloc (.cells #[.int .i64 (v : Int), .slice a B.length cap] 29)).heap.size (w.alloc (.cells #[.int .i64 (v : Int), .slice a B.length cap] 29)) W → W.cell? ⟨w.heap.size, 0, none⟩ = some (.int .i64 (v : Int)) ∧ W.cell? ⟨w.heap.size, 1, none⟩ = some (.slice a B.length cap)) := des_box (v : Int) (.slice a B.length cap) w
  obtain ⟨w0, Hw0⟩ : ∃ w0, Hid (w0 = w.alloc (.cells #[.int .i64 (v : Int), .slice a B.length cap] 29)) := ⟨_, rfl⟩
  rw [← Hw0.out] at HC HBX
  have HB0 : Hid (Below w.heap.size w w0) := by rw [Hw0.out]; exact balloc _ _
  generalize hBn : B.length = n at *
  generalize hbn : b.length = bn at *
  obtain ⟨wz, Hwz⟩ : ∃ wz, Hid (w.heap.size = wz) := ⟨_, rfl⟩
  clear hD hu hl hlb hq1 hq0 G
  go_enter Tryd.func23, Tryd.ntmps23
  go_wp2
  go_loopw [6] (fun jv wr => ∃ j : Nat, jv = .int .i64 (j : Int) ∧ j ≤ bn ∧ Hid (∀ m, m < j → 0 ≤ b.getD m 0 ∧ b.getD m 0 < (v : Int)) ∧ Below w0.heap.size w0 wr) (fun jv _ => (bn - intOf jv).toNat)
  case atStart => exact ⟨0, rfl, by omega, (show ∀ m, m < 0 → _ from fun m h => by omega), by rw [Hw0.out]; exact Below.refl _ _⟩
  case round =>
    obtain ⟨j, rfl, hj, HJ, hB⟩ := hrel
    obtain ⟨x0, x1⟩ := HC.out _ hB
    have hBw := Below.next HB0.out hB
    by_cases hlt : j < bn
    · have hdj : decide ((j : Int) < (bn : Int)) = true := by simp; omega
      have hji : (j : Int) < (bn : Int) := by omega
      obtain ⟨g, o, rfl, hc0⟩ := HLB.out j hlt
      have hcj := hc0 _ hBw
      have hO := HO.out j hlt
      obtain ⟨x, Hx⟩ : ∃ x, Hid (x = b.getD j 0) := ⟨_, (rfl : b.getD j 0 = b.getD j 0)⟩
      rw [← Hx.out] at hcj hO
      by_cases hneg : x < 0
      · obtain rfl := hO (by omega)
        obtain rfl := HQ0.out (by omega)
        have hdx : decide (x < 0) = true := decide_eq_true hneg
        clear hneg hO hc0
        go_wp2
        go_quiet (fail)
        go_wp2
        exact bodyPost_ret (v := .tuple #[.bool false, .int .i64 1]) (by simp [results, Tryd.results23, go_sem]) rfl ⟨rfl, bdrewN hBw _⟩
      · have hdx : decide (x < 0) = false := decide_eq_false hneg
        by_cases hge : (v : Int) ≤ x
        · obtain rfl := hO (by omega)
          obtain rfl := HQ0.out (by omega)
          have hdx2 : decide ((v : Int) ≤ x) = true := decide_eq_true hge
          clear hO hc0
          go_wp2
          go_quiet (fail)
          go_wp2
          exact bodyPost_ret (v := .tuple #[.bool false, .int .i64 1]) (by simp [results, Tryd.results23, go_sem]) rfl ⟨rfl, bdrewN hBw _⟩
        · have hdx2 : decide ((v : Int) ≤ x) = false := decide_eq_false hge
          have HJ2 : Hid (∀ m, m < j + 1 → 0 ≤ b.getD m 0 ∧ b.getD m 0 < (v : Int)) := fun m hm => by
            by_cases e : m = j
            · subst e; rw [← Hx.out]; omega
            · exact HJ.out m (by omega)
          clear HJ hc0 hO
          go_wp2
          go_quiet (fail)
          go_wp2
          go_roundw
          case rel => exact ⟨j + 1, by go_num, by omega, HJ2, bdrewN hB _⟩
          case measure => simp [intOf]; omega
    · have hdj : decide ((j : Int) < (bn : Int)) = false := by simp; omega
      obtain rfl : j = bn := by omega
      have HFA' : Hid (∀ k, 1 ≤ k → k < j → b.getD k 0 ≤ b.getD (k - 1) 0 → z = 2) := fun k h1 h2 h3 => HFA.out HJ.out k h1 h2 h3
      have HOK' : Hid ((∀ k, 1 ≤ k → k < j → b.getD (k - 1) 0 < b.getD k 0) → z = 0) := fun h => HOK.out HJ.out h
      clear hlt HO HFA HOK HJ
      go_wp2
      go_loopw [7] (fun kv wr' => ∃ k : Nat, kv = .int .i64 (k : Int) ∧ 1 ≤ k ∧ Hid (∀ m, 1 ≤ m → m < k → m < j → b.getD (m - 1) 0 < b.getD m 0) ∧ k ≤ j + 1 ∧ Below w0.heap.size w0 wr') (fun kv _ => (j + 1 - intOf kv).toNat)
      case atStart => exact ⟨1, rfl, by omega, (show ∀ m, 1 ≤ m → m < 1 → _ from fun m h h' => by omega), by omega, hB⟩
      case round =>
        clear hB hBw x0 x1
        obtain ⟨k, rfl, hk1, HK, hkj, hB3⟩ := hrel
        obtain ⟨x0, x1⟩ := HC.out _ hB3
        have hBw := Below.next HB0.out hB3
        by_cases hlk : k < j
        · have hdk : decide ((k : Int) < (j : Int)) = true := by simp; omega
          have hki : (k : Int) < (j : Int) := by omega
          obtain ⟨k', Hk'⟩ : ∃ k', Hid (k = k' + 1) := ⟨k - 1, (by omega : k = k - 1 + 1)⟩
          have hsub : (k : Int) - 1 = (k' : Int) := by have := Hk'.out; omega
          have hk'i : (k' : Int) < (j : Int) := by have := Hk'.out; omega
          obtain ⟨g, o, rfl, hc0⟩ := HLB.out k hlk
          obtain ⟨g2, o2, e2, hc1⟩ := HLB.out k' (by have := Hk'.out; omega)
          obtain ⟨rfl, rfl⟩ : g = g2 ∧ o = o2 := by
            simp only [Option.some.injEq, Addr.mk.injEq] at e2
            exact ⟨e2.1, e2.2.1⟩
          have hck := hc0 _ hBw
          have hck' := hc1 _ hBw
          have hL := HFA'.out k (by omega) hlk
          rw [show k - 1 = k' by have := Hk'.out; omega] at hL
          obtain ⟨x, Hx⟩ : ∃ x, Hid (x = b.getD k 0) := ⟨_, (rfl : b.getD k 0 = b.getD k 0)⟩
          obtain ⟨y, Hy⟩ : ∃ y, Hid (y = b.getD k' 0) := ⟨_, (rfl : b.getD k' 0 = b.getD k' 0)⟩
          rw [← Hx.out] at hck hL
          rw [← Hy.out] at hck' hL
          clear e2 hc0 hc1
          by_cases hle : x ≤ y
          · obtain rfl := hL hle
            obtain rfl := HQ0.out (by omega)
            have hdx : decide (x ≤ y) = true := decide_eq_true hle
            clear hle hL HK
            go_wp2
            go_quiet (fail)
            go_wp2
            exact bodyPost_ret (v := .tuple #[.bool false, .int .i64 2]) (by simp [results, Tryd.results23, go_sem]) rfl ⟨rfl, bdrewN hBw _⟩
          · have hdx : decide (x ≤ y) = false := decide_eq_false hle
            have HK2 : Hid (∀ m, 1 ≤ m → m < k + 1 → m < j → b.getD (m - 1) 0 < b.getD m 0) := fun m h1 h2 h3 => by
              by_cases e : m = k
              · subst e; rw [show m - 1 = k' by have := Hk'.out; omega, ← Hx.out, ← Hy.out]; omega
              · exact HK.out m h1 (by omega) h3
            clear hle HK hL
            go_wp2
            go_quiet (fail)
            go_wp2
            go_roundw
            case rel => exact ⟨k + 1, by go_num, by omega, HK2, by omega, bdrewN hB3 _⟩
            case measure => simp [intOf]; omega
        · have hdk : decide ((k : Int) < (j : Int)) = false := by simp; omega
          have hki : ¬ (k : Int) < (j : Int) := by omega
          obtain rfl := HOK'.out fun m h1 h2 => HK.out m h1 (by omega) h2
          have C := HQ1.out rfl _ hBw
          have hbx := HBX.out _ hB3
          obtain ⟨dd, hd1, hd2⟩ := undD
          clear HFA' HOK' HQ1 HQ0 HK
          go_wp2_with (first
            | (refine wpList_load_row rfl 29 _ rfl w.heap.size rfl 29 _ (0, 0) _ hbx hd1 hd2 (infD2 _ _) ?_)
            | (go_at_call 46; refine C.mono ?_; rintro e w5 ⟨rfl, b5⟩; clear C))
          exact bodyPost_ret (v := .tuple #[.bool q, .int .i64 0]) (by simp [results, Tryd.results23, go_sem]) rfl ⟨rfl, Below.next hBw b5⟩

end Go.Proofs.YtgpkhfpejopacaaDoor
