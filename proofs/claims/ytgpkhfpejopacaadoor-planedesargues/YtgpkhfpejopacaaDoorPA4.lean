/- The walk of the document's IsPlane. -/
import Derived.Test.YtgpkhfpejopacaaDoorPA1
import Derived.Deep.QuietTactic
import Derived.BigQuiet
/- The walk of the document's ArcOf. -/
namespace Go.Proofs.YtgpkhfpejopacaaDoor
open Go.RowKit

theorem undD : ∃ d, Tryd.prog.underlying 29 = some d ∧ d.isRow = true := ⟨_, Tryd.underlying29, rfl⟩
theorem infD2 (x y : Value) : (Tryd.prog.info? 29).map (·.size) = some (#[x, y] : Array Value).size := by kernel_rfl
set_option maxRecDepth 100000 in
set_option maxHeartbeats 16000000 in
theorem ArcOf_any (v : Nat) (B : List (List Nat)) (b : List Int) (q : Bool) (u lv : Value) (w : World) (G : GoodD v B) (hu : Rw w u (toZ B)) (hl : Sl w lv b) (hbl : b.length ≤ maxLen)
    (hq1 : bF (v : Int) b = 0 → ∀ W, Below w.heap.size w W → Calls Tryd.prog 46 #[.agg #[.int .i64 (v : Int), u], lv] W fun e w' => e = .returned (.bool (!q)) ∧ Below W.heap.size W w') (hq0 : bF (v : Int) b ≠ 0 → q = false) :
    Calls Tryd.prog 23 #[.agg #[.int .i64 (v : Int), u], lv] w fun e w' => e = .returned (.tuple #[.bool q, .int .i64 (bF (v : Int) b : Int)]) ∧ Below w.heap.size w w' := by
  unfold maxLen at hbl
  obtain ⟨a, cap, rfl, hD⟩ := drow_of hu
  have h40 := G.le
  obtain ⟨la, lc, rfl, hlb⟩ := id hl
  have HLB : Hid (∀ j, j < b.length → ∃ g o, la = some ⟨g, o, none⟩ ∧ ∀ W, Below w.heap.size w W → W.cell? ⟨g, o + j, none⟩ = some (.int .i64 (b.getD j 0))) := fun j hj => by
    obtain ⟨g, o, e, hc⟩ := hlb j hj
    exact ⟨g, o, e, fun W bW => (bW.cell (World.block_lt_of_cell? _ _ hc)).trans hc⟩
  have HO : Hid (∀ j, j < b.length → ¬ (0 ≤ b.getD j 0 ∧ b.getD j 0 < (v : Int)) → bF (v : Int) b = 1) := fun j hj h => bF_out hj h
  have HFA : Hid ((∀ j, j < b.length → 0 ≤ b.getD j 0 ∧ b.getD j 0 < (v : Int)) → ∀ j, 1 ≤ j → j < b.length → b.getD j 0 ≤ b.getD (j - 1) 0 → bF (v : Int) b = 2) := fun h j h1 hj hf => bF_fall h h1 hj hf
  have HOK : Hid ((∀ j, j < b.length → 0 ≤ b.getD j 0 ∧ b.getD j 0 < (v : Int)) → (∀ j, 1 ≤ j → j < b.length → b.getD (j - 1) 0 < b.getD j 0) → bF (v : Int) b = 0) := fun h hr => bF_ok h hr
  obtain ⟨z, HZ⟩ : ∃ z, Hid (bF (v : Int) b = z) := ⟨_, rfl⟩
  rw [HZ.out] at HO HFA HOK hq1 hq0 ⊢
  have HQ1 : Hid (z = 0 → ∀ W, Below w.heap.size w W → Calls Tryd.prog 46 #[.agg #[.int .i64 (v : Int), .slice a B.length cap], .slice la b.length lc] W fun e w' => e = .returned (.bool (!q)) ∧ Below W.heap.size W w') := hq1
  have HQ0 : Hid (z ≠ 0 → q = false) := hq0
  have HBX : Hid (∀ W, Below (w.alloc (.cells #[.int .i64 (v : Int), .slice a B.length cap] 29)).heap.size (w.alloc (.cells #[.int .i64 (v : Int), .slice a B.length cap] 29)) W → W.heap[w.heap.size]? = some (.cells #[.int .i64 (v : Int), .slice a B.length cap] 29 (0, 0))) := fun W hW => (hW.block w.heap.size (by simp)).trans (heap_alloc_new w _)
  have HC : Hid (∀ W, Below (w.alloc (.cells #[.int .i64 (v : Int), .slice a B.length cap] 29)).heap.size (w.alloc (.cells #[.int .i64 (v : Int), .slice a B.length cap] 29)) W → W.cell? ⟨w.heap.size, 0, none⟩ = some (.int .i64 (v : Int)) ∧ W.cell? ⟨w.heap.size, 1, none⟩ = some (.slice a B.length cap)) := des_box (v : Int) (.slice a B.length cap) w
  obtain ⟨w0, Hw0⟩ : ∃ w0, Hid (w0 = w.alloc (.cells #[.int .i64 (v : Int), .slice a B.length cap] 29)) := ⟨_, rfl⟩
  rw [← Hw0.out] at HC HBX
  have HB0 : Hid (Below w.heap.size w w0) := by rw [Hw0.out]; exact balloc _ _
  generalize hBn : B.length = n at *
  generalize hbn : b.length = bn at *
  obtain ⟨wz, Hwz⟩ : ∃ wz, Hid (w.heap.size = wz) := ⟨_, rfl⟩
  clear hD hu hl hlb hq1 hq0 G
  go_enter Tryd.func23, Tryd.ntmps23
  go_wp2
  go_loopw [6] (fun jv wr => ∃ j : Nat, jv = .int .i64 (j : Int) ∧ j ≤ bn ∧ Hid (∀ m, m < j → 0 ≤ b.getD m 0 ∧ b.getD m 0 < (v : Int)) ∧ Below w0.heap.size w0 wr) (fun jv _ => (bn - intOf jv).toNat)
  case atStart => exact ⟨0, rfl, by omega, (show ∀ m, m < 0 → _ from fun m h => by omega), by rw [Hw0.out]; exact Below.refl _ _⟩
  case round =>
    obtain ⟨j, rfl, hj, HJ, hB⟩ := hrel
    obtain ⟨x0, x1⟩ := HC.out _ hB
    have hBw := Below.next HB0.out hB
    by_cases hlt : j < bn
    · have hdj : decide ((j : Int) < (bn : Int)) = true := by simp; omega
      have hji : (j : Int) < (bn : Int) := by omega
      obtain ⟨g, o, rfl, hc0⟩ := HLB.out j hlt
      have hcj := hc0 _ hBw
      have hO := HO.out j hlt
      obtain ⟨x, Hx⟩ : ∃ x, Hid (x = b.getD j 0) := ⟨_, (rfl : b.getD j 0 = b.getD j 0)⟩
      rw [← Hx.out] at hcj hO
      by_cases hneg : x < 0
      · obtain rfl := hO (by omega)
        obtain rfl := HQ0.out (by omega)
        have hdx : decide (x < 0) = true := decide_eq_true hneg
        clear hneg hO hc0
        go_wp2
        go_quiet (fail)
        go_wp2
        exact bodyPost_ret (v := .tuple #[.bool false, .int .i64 1]) (by simp [results, Tryd.results23, go_sem]) rfl ⟨rfl, bdrewN hBw _⟩
      · have hdx : decide (x < 0) = false := decide_eq_false hneg
        by_cases hge : (v : Int) ≤ x
        · obtain rfl := hO (by omega)
          obtain rfl := HQ0.out (by omega)
          have hdx2 : decide ((v : Int) ≤ x) = true := decide_eq_true hge
          clear hO hc0
          go_wp2
          go_quiet (fail)
          go_wp2
          exact bodyPost_ret (v := .tuple #[.bool false, .int .i64 1]) (by simp [results, Tryd.results23, go_sem]) rfl ⟨rfl, bdrewN hBw _⟩
        · have hdx2 : decide ((v : Int) ≤ x) = false := decide_eq_false hge
          have HJ2 : Hid (∀ m, m < j + 1 → 0 ≤ b.getD m 0 ∧ b.getD m 0 < (v : Int)) := fun m hm => by
            by_cases e : m = j
            · subst e; rw [← Hx.out]; omega
            · exact HJ.out m (by omega)
          clear HJ hc0 hO
          go_wp2
          go_quiet (fail)
          go_wp2
          go_roundw
          case rel => exact ⟨j + 1, by go_num, by omega, HJ2, bdrewN hB _⟩
          case measure => simp [intOf]; omega
    · have hdj : decide ((j : Int) < (bn : Int)) = false := by simp; omega
      obtain rfl : j = bn := by omega
      have HFA' : Hid (∀ k, 1 ≤ k → k < j → b.getD k 0 ≤ b.getD (k - 1) 0 → z = 2) := fun k h1 h2 h3 => HFA.out HJ.out k h1 h2 h3
      have HOK' : Hid ((∀ k, 1 ≤ k → k < j → b.getD (k - 1) 0 < b.getD k 0) → z = 0) := fun h => HOK.out HJ.out h
      clear hlt HO HFA HOK HJ
      go_wp2
      go_loopw [7] (fun kv wr' => ∃ k : Nat, kv = .int .i64 (k : Int) ∧ 1 ≤ k ∧ Hid (∀ m, 1 ≤ m → m < k → m < j → b.getD (m - 1) 0 < b.getD m 0) ∧ k ≤ j + 1 ∧ Below w0.heap.size w0 wr') (fun kv _ => (j + 1 - intOf kv).toNat)
      case atStart => exact ⟨1, rfl, by omega, (show ∀ m, 1 ≤ m → m < 1 → _ from fun m h h' => by omega), by omega, hB⟩
      case round =>
        clear hB hBw x0 x1
        obtain ⟨k, rfl, hk1, HK, hkj, hB3⟩ := hrel
        obtain ⟨x0, x1⟩ := HC.out _ hB3
        have hBw := Below.next HB0.out hB3
        by_cases hlk : k < j
        · have hdk : decide ((k : Int) < (j : Int)) = true := by simp; omega
          have hki : (k : Int) < (j : Int) := by omega
          obtain ⟨k', Hk'⟩ : ∃ k', Hid (k = k' + 1) := ⟨k - 1, (by omega : k = k - 1 + 1)⟩
          have hsub : (k : Int) - 1 = (k' : Int) := by have := Hk'.out; omega
          have hk'i : (k' : Int) < (j : Int) := by have := Hk'.out; omega
          obtain ⟨g, o, rfl, hc0⟩ := HLB.out k hlk
          obtain ⟨g2, o2, e2, hc1⟩ := HLB.out k' (by have := Hk'.out; omega)
          obtain ⟨rfl, rfl⟩ : g = g2 ∧ o = o2 := by
            simp only [Option.some.injEq, Addr.mk.injEq] at e2
            exact ⟨e2.1, e2.2.1⟩
          have hck := hc0 _ hBw
          have hck' := hc1 _ hBw
          have hL := HFA'.out k (by omega) hlk
          rw [show k - 1 = k' by have := Hk'.out; omega] at hL
          obtain ⟨x, Hx⟩ : ∃ x, Hid (x = b.getD k 0) := ⟨_, (rfl : b.getD k 0 = b.getD k 0)⟩
          obtain ⟨y, Hy⟩ : ∃ y, Hid (y = b.getD k' 0) := ⟨_, (rfl : b.getD k' 0 = b.getD k' 0)⟩
          rw [← Hx.out] at hck hL
          rw [← Hy.out] at hck' hL
          clear e2 hc0 hc1
          by_cases hle : x ≤ y
          · obtain rfl := hL hle
            obtain rfl := HQ0.out (by omega)
            have hdx : decide (x ≤ y) = true := decide_eq_true hle
            clear hle hL HK
            go_wp2
            go_quiet (fail)
            go_wp2
            exact bodyPost_ret (v := .tuple #[.bool false, .int .i64 2]) (by simp [results, Tryd.results23, go_sem]) rfl ⟨rfl, bdrewN hBw _⟩
          · have hdx : decide (x ≤ y) = false := decide_eq_false hle
            have HK2 : Hid (∀ m, 1 ≤ m → m < k + 1 → m < j → b.getD (m - 1) 0 < b.getD m 0) := fun m h1 h2 h3 => by
              by_cases e : m = k
              · subst e; rw [show m - 1 = k' by have := Hk'.out; omega, ← Hx.out, ← Hy.out]; omega
              · exact HK.out m h1 (by omega) h3
            clear hle HK hL
            go_wp2
            go_quiet (fail)
            go_wp2
            go_roundw
            case rel => exact ⟨k + 1, by go_num, by omega, HK2, by omega, bdrewN hB3 _⟩
            case measure => simp [intOf]; omega
        · have hdk : decide ((k : Int) < (j : Int)) = false := by simp; omega
          have hki : ¬ (k : Int) < (j : Int) := by omega
          obtain rfl := HOK'.out fun m h1 h2 => HK.out m h1 (by omega) h2
          have C := HQ1.out rfl _ hBw
          have hbx := HBX.out _ hB3
          obtain ⟨dd, hd1, hd2⟩ := undD
          clear HFA' HOK' HQ1 HQ0 HK
          go_wp2_with (first
            | (refine wpList_load_row rfl 29 _ rfl w.heap.size rfl 29 _ (0, 0) _ hbx hd1 hd2 (infD2 _ _) ?_)
            | (go_at_call 46; refine C.mono ?_; rintro e w5 ⟨rfl, b5⟩; clear C))
          exact bodyPost_ret (v := .tuple #[.bool q, .int .i64 0]) (by simp [results, Tryd.results23, go_sem]) rfl ⟨rfl, Below.next hBw b5⟩

end Go.Proofs.YtgpkhfpejopacaaDoor

namespace Go.Proofs.YtgpkhfpejopacaaDoor
open Go.RowKit

theorem mt_two {x y : Nat} {b : List Nat} : (mt [y, x] b == 2) = [y, x].all fun z => b.contains z := by
  unfold mt
  simp only [List.countP_cons, List.countP_nil, List.all_cons, List.all_nil, Bool.and_true]
  cases b.contains y <;> cases b.contains x <;> simp
/-- All sets ahead of this one are lined. -/
def SrI (v : Nat) (B : List (List Nat)) (s : List Nat) : Prop := ∀ s', Rs v 0 s' → s'.length = 4 → (s = s' ∨ llt s s') ∨ liB B s' = true
theorem SrI.start {v : Nat} {B : List (List Nat)} : SrI v B (List.range' 0 4) := fun s' h1 h2 => by
  have h := range_least h1 h2
  rcases llt_tri (s := s') (t := List.range' 0 4) (by rw [h2]; simp) with k | k | k
  · exact absurd k h
  · exact .inl (.inl k.symm)
  · exact .inl (.inr k)
theorem SrI.next {v : Nat} {B : List (List Nat)} {s s2 : List Nat} (h : SrI v B s) (hs : Rs v 0 s) (h4 : s.length = 4) (hl : liB B s = true) (hn : nx v s = some s2) : SrI v B s2 := fun s' h1 h2 => by
  rcases h s' h1 h2 with (k | k) | k
  · subst k; exact .inr hl
  · exact .inl ((nx_some hs hn).2.2.2 s' h1 (by rw [h2, h4]) k)
  · exact .inr k
theorem SrI.no {v : Nat} {B : List (List Nat)} {s : List Nat} (h : SrI v B s) (hs : Rs v 0 s) (h4 : s.length = 4) (hl : liB B s = true) (hn : nx v s = none) : ¬ PlP v B := fun ⟨_, _, _, s', h1, h2, h3⟩ => by
  rcases h s' h1 h2 with (k | k) | k
  · subst k; rw [hl] at h3; cases h3
  · exact nx_none hs hn h1 (by rw [h2, h4]) k
  · rw [k] at h3; cases h3
set_option maxRecDepth 100000 in
set_option maxHeartbeats 32000000 in
theorem IsPlane_any (v : Nat) (B : List (List Nat)) (q : Bool) (u : Value) (w : World) (G : GoodD v B) (hu : Rw w u (toZ B)) (hq : q = true ↔ PlP v B) :
    Calls Tryd.prog 39 #[.agg #[.int .i64 (v : Int), u]] w fun e w' => e = .returned (.bool q) ∧ Below w.heap.size w w' := by
  have HLI : Hid (∀ (W : World) (s : List Nat) (sv : Value), Below w.heap.size w W → Sl W sv (s.map Int.ofNat) → s.length ≤ 99 → Calls Tryd.prog 46 #[.agg #[.int .i64 (v : Int), u], sv] W fun e w' => e = .returned (.bool (liB B s)) ∧ Below W.heap.size W w') := fun W s sv hW hs hl => lined_any v B s u sv W G (hu.below hW) hs hl
  obtain ⟨a, cap, rfl, hD⟩ := drow_of hu
  have h200 := G.few
  have h40 := G.le
  have HD : Hid (DRow w a B) := hD
  have HAT : Hid (∀ i, i < B.length → ∃ b, B[i]? = some b) := fun i hi => ⟨_, List.getElem?_eq_getElem hi⟩
  have HBL : Hid (∀ (i : Nat) (b : List Nat), B[i]? = some b → b.length ≤ 40) := fun i b hb => G.len (List.mem_of_getElem? hb)
  have hff : ∀ {P : Prop}, ¬ P → (q = true ↔ P) → q = false := fun hn hi => by
    cases q
    · rfl
    · exact absurd (hi.1 rfl) hn
  have HM1 : Hid (∀ (i j : Nat) (b c : List Nat), j < i → B[i]? = some b → B[j]? = some c → mt b c ≠ 1 → q = false) := fun i j b c h1 h2 h3 h4 => hff (fun hp => h4 (hp.1 i j b c h1 h2 h3)) hq
  have HM2 : Hid (∀ x y, y < x → x < v → nb B [y, x] ≠ 1 → q = false) := fun x y h1 h2 h3 => hff (fun hp => h3 (hp.2.1 x y h1 h2)) hq
  have HM3 : Hid (v < 4 → q = false) := fun h => hff (fun hp => by have := hp.2.2.1; omega) hq
  have HM4 : Hid (∀ s, SrI v B s → Rs v 0 s → s.length = 4 → liB B s = true → nx v s = none → q = false) := fun s h1 h2 h3 h4 h5 => hff (h1.no h2 h3 h4 h5) hq
  have HMY : Hid ((∀ (i j : Nat) (b c : List Nat), j < i → B[i]? = some b → B[j]? = some c → mt b c = 1) → (∀ x y, y < x → x < v → nb B [y, x] = 1) → 4 ≤ v → ∀ s, Rs v 0 s → s.length = 4 → liB B s = false → q = true) := fun h1 h2 h3 s h4 h5 h6 => hq.2 ⟨h1, h2, h3, s, h4, h5, h6⟩
  have HNB : Hid (∀ s, nb B s = (B.take B.length).countP fun b => s.all fun x => b.contains x) := fun s => by rw [List.take_length]; rfl
  have HTC : Hid (∀ (s : List Nat) (i : Nat) (b : List Nat), B[i]? = some b → ((B.take (i + 1)).countP fun b => s.all fun x => b.contains x) = ((B.take i).countP fun b => s.all fun x => b.contains x) + if (s.all fun x => b.contains x) = true then 1 else 0) := fun s i b hb => take_count B (fun b => s.all fun x => b.contains x) hb
  have HBX : Hid (∀ W, Below (w.alloc (.cells #[.int .i64 (v : Int), .slice a B.length cap] 29)).heap.size (w.alloc (.cells #[.int .i64 (v : Int), .slice a B.length cap] 29)) W → W.heap[w.heap.size]? = some (.cells #[.int .i64 (v : Int), .slice a B.length cap] 29 (0, 0))) := fun W hW => (hW.block w.heap.size (by simp)).trans (heap_alloc_new w _)
  have HC : Hid (∀ W, Below (w.alloc (.cells #[.int .i64 (v : Int), .slice a B.length cap] 29)).heap.size (w.alloc (.cells #[.int .i64 (v : Int), .slice a B.length cap] 29)) W → W.cell? ⟨w.heap.size, 0, none⟩ = some (.int .i64 (v : Int)) ∧ W.cell? ⟨w.heap.size, 1, none⟩ = some (.slice a B.length cap)) := des_box (v : Int) (.slice a B.length cap) w
  obtain ⟨w0, Hw0⟩ : ∃ w0, Hid (w0 = w.alloc (.cells #[.int .i64 (v : Int), .slice a B.length cap] 29)) := ⟨_, rfl⟩
  rw [← Hw0.out] at HC HBX
  have HB0 : Hid (Below w.heap.size w w0) := by rw [Hw0.out]; exact balloc _ _
  have HST := fun W => Still_any 4 W (by omega)
  generalize hBn : B.length = n at *
  clear hD hu hff hq G
  go_enter Tryd.func39, Tryd.ntmps39
  go_wp2
  go_loopw [3] (fun iv wr => ∃ i : Nat, iv = .int .i64 (i : Int) ∧ i ≤ n ∧ Hid (∀ (i' j : Nat) (b c : List Nat), i' < i → j < i' → B[i']? = some b → B[j]? = some c → mt b c = 1) ∧ Below w0.heap.size w0 wr) (fun iv _ => (n - intOf iv).toNat)
  case atStart => exact ⟨0, rfl, by omega, (show ∀ (i' j : Nat) (b c : List Nat), i' < 0 → _ from fun i' j b c h => by omega), by rw [Hw0.out]; exact Below.refl _ _⟩
  case round =>
    obtain ⟨i, rfl, hi, HI, hB⟩ := hrel
    obtain ⟨x0, x1⟩ := HC.out _ hB
    by_cases hlt : i < n
    · have hdi : decide ((i : Int) < (n : Int)) = true := by simp; omega
      have hii : (i : Int) < (n : Int) := by omega
      obtain ⟨b, hb⟩ := HAT.out i hlt
      obtain ⟨bb, off, ua, uc, rfl, hrow⟩ := HD.out i b hb
      have HRO : Hid (∀ W, Below w.heap.size w W → W.cell? ⟨bb, off + i, none⟩ = some (.slice ua b.length uc) ∧ Sl W (.slice ua b.length uc) (b.map Int.ofNat)) := hrow
      have hbl := HBL.out i b hb
      have HBI : Hid (B[i]? = some b) := hb
      generalize hbn : b.length = bl at *
      clear hrow hb
      go_wp2
      go_loopw [4] (fun jv wr' => ∃ j : Nat, jv = .int .i64 (j : Int) ∧ j ≤ i ∧ Hid (∀ (j' : Nat) (c : List Nat), j' < j → B[j']? = some c → mt b c = 1) ∧ Below w0.heap.size w0 wr') (fun jv _ => (i - intOf jv).toNat)
      case atStart => exact ⟨0, rfl, by omega, (show ∀ (j' : Nat) (c : List Nat), j' < 0 → _ from fun j' c h => by omega), hB⟩
      case round =>
        clear hB x0 x1
        obtain ⟨j, rfl, hj, HJ, hB3⟩ := hrel
        obtain ⟨x0, x1⟩ := HC.out _ hB3
        have hBw := Below.next HB0.out hB3
        by_cases hlj : j < i
        · have hdj : decide ((j : Int) < (i : Int)) = true := by simp; omega
          have hji : (j : Int) < (i : Int) := by omega
          have hjn : (j : Int) < (n : Int) := by omega
          obtain ⟨c, hc⟩ := HAT.out j (by omega)
          obtain ⟨bb', off', va, vc, e, hrow⟩ := HD.out j c hc
          obtain ⟨rfl, rfl⟩ : bb = bb' ∧ off = off' := by
            simp only [Option.some.injEq, Addr.mk.injEq] at e
            exact ⟨e.1, e.2.1⟩
          obtain ⟨r1, s1⟩ := HRO.out _ hBw
          obtain ⟨r2, s2⟩ := hrow _ hBw
          have hcl := HBL.out j c hc
          have CT := fun nn => Together_any b c _ _ (wr.drewN nn) (s1.below (bdrewN (Below.refl _ wr) nn)) (s2.below (bdrewN (Below.refl _ wr) nn)) (by omega) (by omega)
          have hm1 := HM1.out i j b c hlj HBI.out hc
          have HJ2 : Hid (mt b c = 1 → ∀ (j' : Nat) (c : List Nat), j' < j + 1 → B[j']? = some c → mt b c = 1) := fun h j' c' hj' hc' => by
            by_cases e : j' = j
            · subst e
              rw [hc] at hc'
              cases hc'
              exact h
            · exact HJ.out j' c' (by omega) hc'
          have hml := Nat.le_trans (mt_len b c) (show b.length ≤ 40 by omega)
          obtain ⟨t, Ht⟩ : ∃ t, Hid (mt b c = t) := ⟨_, rfl⟩
          rw [Ht.out] at CT hm1 HJ2 hml
          generalize c.length = cl at *
          clear hrow hc e s1 s2 HJ
          by_cases ht : t = 1
          · have HJ3 : Hid (∀ (j' : Nat) (c : List Nat), j' < j + 1 → B[j']? = some c → mt b c = 1) := HJ2.out ht
            subst ht
            clear hm1 HJ2
            go_wp2
            go_quiet (first | (refine Calls.quiet_of_same (CT _)) | fail)
            go_wp2
            go_roundw
            case rel => exact ⟨j + 1, by go_num, by omega, HJ3, bdrewN hB3 _⟩
            case measure => simp [intOf]; omega
          · obtain rfl := hm1 ht
            have ht1 : ((t : Int) != 1) = true := by simp; omega
            have ht2 : ¬ (t : Int) = 1 := by omega
            clear hm1 HJ2
            go_wp2
            go_quiet (first | (refine Calls.quiet_of_same (CT _)) | fail)
            go_wp2
            go_ret
            exact ⟨rfl, bdrewN hBw _⟩
        · have hdj : decide ((j : Int) < (i : Int)) = false := by simp; omega
          have hji : ¬ (j : Int) < (i : Int) := by omega
          obtain rfl : j = i := by omega
          have HI2 : Hid (∀ (i' j' : Nat) (b c : List Nat), i' < j + 1 → j' < i' → B[i']? = some b → B[j']? = some c → mt b c = 1) := fun i' j' b' c' h1 h2 h3 h4 => by
            by_cases e : i' = j
            · subst e
              rw [HBI.out] at h3
              cases h3
              exact HJ.out j' c' h2 h4
            · exact HI.out i' j' b' c' (by omega) h2 h3 h4
          clear HI HJ
          go_wp2
          go_roundw
          case rel => exact ⟨j + 1, by go_num, by omega, HI2, hB3⟩
          case measure => simp [intOf]; omega
    · have hdi : decide ((i : Int) < (n : Int)) = false := by simp; omega
      obtain rfl : i = n := by omega
      have HA1 : Hid (∀ (i' j : Nat) (b c : List Nat), j < i' → B[i']? = some b → B[j]? = some c → mt b c = 1) := fun i' j b c h1 h2 h3 => HI.out i' j b c (by rw [← hBn]; exact (List.getElem?_eq_some_iff.1 h2).1) h1 h2 h3
      clear hlt hi HI HM1
      go_wp2
      go_loopw [6] (fun xv wr' => ∃ x : Nat, xv = .int .i64 (x : Int) ∧ x ≤ v ∧ Hid (∀ x' y, x' < x → y < x' → nb B [y, x'] = 1) ∧ Below w0.heap.size w0 wr') (fun xv _ => (v - intOf xv).toNat)
      case atStart => exact ⟨0, rfl, by omega, (show ∀ x' y, x' < 0 → _ from fun x' y h => by omega), hB⟩
      case round =>
        clear hB x0 x1
        obtain ⟨x, rfl, hx, HX, hB⟩ := hrel
        obtain ⟨x0, x1⟩ := HC.out _ hB
        by_cases hlx : x < v
        · have hdx : decide ((x : Int) < (v : Int)) = true := by simp; omega
          have hxi : (x : Int) < (v : Int) := by omega
          go_wp2
          go_loopw [7] (fun yv wr' => ∃ y : Nat, yv = .int .i64 (y : Int) ∧ y ≤ x ∧ Hid (∀ y', y' < y → nb B [y', x] = 1) ∧ Below w0.heap.size w0 wr') (fun yv _ => (x - intOf yv).toNat)
          case atStart => exact ⟨0, rfl, by omega, (show ∀ y', y' < 0 → _ from fun y' h => by omega), hB⟩
          case round =>
            clear hB x0 x1
            obtain ⟨y, rfl, hy, HY, hB⟩ := hrel
            obtain ⟨x0, x1⟩ := HC.out _ hB
            by_cases hly : y < x
            · have hdy : decide ((y : Int) < (x : Int)) = true := by simp; omega
              have hyi : (y : Int) < (x : Int) := by omega
              have HTC2 : Hid (∀ (k : Nat) (b : List Nat), B[k]? = some b → ((B.take (k + 1)).countP fun b => [y, x].all fun x => b.contains x) = ((B.take k).countP fun b => [y, x].all fun x => b.contains x) + if ([y, x].all fun x => b.contains x) = true then 1 else 0) := HTC.out [y, x]
              have HT2 : Hid (∀ b : List Nat, (mt [y, x] b == 2) = [y, x].all fun z => b.contains z) := fun b => mt_two
              have HTG : Hid (∀ (W : World) (b : List Nat) (bv : Value), b.length ≤ 40 → Sl (W.alloc (.cells #[.int .i64 (y : Int), .int .i64 (x : Int)] 3)) bv (b.map Int.ofNat) → Calls Tryd.prog 62 #[.slice (some ⟨W.heap.size, 0, none⟩) 2 2, bv] (W.alloc (.cells #[.int .i64 (y : Int), .int .i64 (x : Int)] 3)) fun e w' => e = .returned (.int .i64 ((mt [y, x] b : Nat) : Int)) ∧ w' = W.alloc (.cells #[.int .i64 (y : Int), .int .i64 (x : Int)] 3)) := fun W b bv hb hbv => Together_any [y, x] b _ bv _ ⟨_, _, rfl, fun j hj => ⟨W.heap.size, 0, rfl, by
                rw [Nat.zero_add, cell_of_row _ _ _ _ _ _ (heap_alloc_new W _)]
                rcases (show j = 0 ∨ j = 1 by simp at hj; omega) with rfl | rfl <;> rfl⟩⟩ hbv (by simp) (by omega)
              have HML : Hid (∀ b : List Nat, mt [y, x] b ≤ 2) := fun b => by have := mt_len [y, x] b; simpa using this
              have HNB2 : Hid (nb B [y, x] = (B.take i).countP fun b => [y, x].all fun x => b.contains x) := HNB.out [y, x]
              obtain ⟨F, HF⟩ : ∃ F : List Nat → Bool, Hid ((fun b => [y, x].all fun x => b.contains x) = F) := ⟨_, rfl⟩
              have HTC3 : Hid (∀ (k : Nat) (b : List Nat), B[k]? = some b → (B.take (k + 1)).countP F = (B.take k).countP F + if F b = true then 1 else 0) := fun k b hb => by rw [← HF.out]; exact HTC2.out k b hb
              have HT3 : Hid (∀ b : List Nat, (mt [y, x] b == 2) = F b) := fun b => by rw [← HF.out]; exact HT2.out b
              have HNB3 : Hid (nb B [y, x] = (B.take i).countP F) := by show nb B [y, x] = _; rw [← HF.out]; exact HNB2.out
              clear HTC2 HT2 HNB2
              go_wp2
              go_loopw [8, 9] (fun cv kv wr' => ∃ c k : Nat, cv = .int .i64 (c : Int) ∧ kv = .int .i64 (k : Int) ∧ k ≤ i ∧ c ≤ k ∧ Hid ((B.take k).countP F = c) ∧ Below w0.heap.size w0 wr') (fun _ kv _ => (i - intOf kv).toNat)
              case atStart => exact ⟨0, 0, rfl, rfl, by omega, by omega, (show (B.take 0).countP F = 0 by simp), hB⟩
              case round =>
                clear hB x0 x1
                obtain ⟨c, k, rfl, rfl, hk, hck, HCN, hB⟩ := hrel
                obtain ⟨x0, x1⟩ := HC.out _ hB
                have hBw := Below.next HB0.out hB
                by_cases hlk : k < i
                · have hdk : decide ((k : Int) < (i : Int)) = true := by simp; omega
                  have hki : (k : Int) < (i : Int) := by omega
                  obtain ⟨b, hb⟩ := HAT.out k hlk
                  obtain ⟨bb, off, ua, uc, rfl, hrow⟩ := HD.out k b hb
                  have hBa : Below w.heap.size w (wr.alloc (.cells #[.int .i64 (y : Int), .int .i64 (x : Int)] 3)) := hBw.alloc hBw.size _
                  have hB2 : Below w0.heap.size w0 (wr.alloc (.cells #[.int .i64 (y : Int), .int .i64 (x : Int)] 3)) := hB.alloc hB.size _
                  obtain ⟨r1, s1⟩ := hrow _ hBa
                  obtain ⟨y0, y1⟩ := HC.out _ hB2
                  have hbl := HBL.out k b hb
                  have CT := HTG.out wr b _ hbl s1
                  have hml := HML.out b
                  have ht3 := HT3.out b
                  have htc := HTC3.out k b hb
                  rw [HCN.out] at htc
                  obtain ⟨t, Ht⟩ : ∃ t, Hid (mt [y, x] b = t) := ⟨_, rfl⟩
                  rw [Ht.out] at CT hml ht3
                  generalize b.length = bl at *
                  clear hrow hb s1 HCN
                  by_cases ht : t = 2
                  · subst ht
                    have HCN2 : Hid ((B.take (k + 1)).countP F = c + 1) := (show (B.take (k + 1)).countP F = c + 1 by rw [htc, ← ht3]; rfl)
                    clear ht3 htc
                    go_wp2_with (go_at_call 62; refine CT.mono ?_; rintro e w4 ⟨rfl, hw⟩; replace hw := hw.symm; subst hw; clear CT)
                    go_roundw
                    case rel => exact ⟨c + 1, k + 1, by go_num, by go_num, by omega, by omega, HCN2, hB2⟩
                    case measure => simp [intOf]; omega
                  · have ht1 : ((t : Int) == 2) = false := by simp; omega
                    have ht2 : ¬ (t : Int) = 2 := by omega
                    have HCN2 : Hid ((B.take (k + 1)).countP F = c) := (show (B.take (k + 1)).countP F = c by rw [htc, ← ht3, if_neg (by simpa using ht)]; rfl)
                    clear ht3 htc
                    go_wp2_with (go_at_call 62; refine CT.mono ?_; rintro e w4 ⟨rfl, hw⟩; replace hw := hw.symm; subst hw; clear CT)
                    go_roundw
                    case rel => exact ⟨c, k + 1, rfl, by go_num, by omega, by omega, HCN2, hB2⟩
                    case measure => simp [intOf]; omega
                · have hdk : decide ((k : Int) < (i : Int)) = false := by simp; omega
                  obtain rfl : k = i := by omega
                  have hnb : nb B [y, x] = c := by rw [HNB3.out]; exact HCN.out
                  have hm2 := HM2.out x y hly hlx
                  rw [hnb] at hm2
                  by_cases hc : c = 1
                  · have HY2 : Hid (∀ y', y' < y + 1 → nb B [y', x] = 1) := fun y' h => by
                      by_cases e : y' = y
                      · subst e; rw [hnb]; exact hc
                      · exact HY.out y' (by omega)
                    subst hc
                    clear hm2 hnb HY HCN
                    go_wp2
                    go_roundw
                    case rel => exact ⟨y + 1, by go_num, by omega, HY2, hB⟩
                    case measure => simp [intOf]; omega
                  · obtain rfl := hm2 hc
                    have hc1 : ((c : Int) != 1) = true := by simp; omega
                    have hc2 : ¬ (c : Int) = 1 := by omega
                    clear hm2 hnb HCN
                    go_wp2
                    go_ret
                    exact ⟨rfl, hBw⟩
            · have hdy : decide ((y : Int) < (x : Int)) = false := by simp; omega
              have hyi : ¬ (y : Int) < (x : Int) := by omega
              obtain rfl : y = x := by omega
              have HX2 : Hid (∀ x' y', x' < y + 1 → y' < x' → nb B [y', x'] = 1) := fun x' y' h1 h2 => by
                by_cases e : x' = y
                · subst e; exact HY.out y' h2
                · exact HX.out x' y' (by omega) h2
              clear HX HY
              go_wp2
              go_roundw
              case rel => exact ⟨y + 1, by go_num, by omega, HX2, hB⟩
              case measure => simp [intOf]; omega
        · have hdx : decide ((x : Int) < (v : Int)) = false := by simp; omega
          have hxi : ¬ (x : Int) < (v : Int) := by omega
          obtain rfl : x = v := by omega
          have HA2 : Hid (∀ x' y, y < x' → x' < x → nb B [y, x'] = 1) := fun x' y h1 h2 => HX.out x' y h2 h1
          have hBw := Below.next HB0.out hB
          clear HX HM2 hlx hx
          by_cases h4 : x < 4
          · obtain rfl := HM3.out h4
            have hd4 : decide ((x : Int) < 4) = true := by simp; omega
            go_wp2
            go_ret
            exact ⟨rfl, hBw⟩
          · have hd4 : decide ((x : Int) < 4) = false := by simp; omega
            have hd4' : ¬ (x : Int) < 4 := by omega
            have hv4 : 4 ≤ x := by omega
            have HMZ : Hid (∀ s, Rs x 0 s → s.length = 4 → liB B s = false → q = true) := fun s h1 h2 h3 => HMY.out HA1.out HA2.out hv4 s h1 h2 h3
            clear HMY HM3 HA1 HA2
            go_wp2_with (go_at_call 63; refine (HST _).mono ?_; rintro e w1 ⟨sv, rfl, hown, c1⟩; have hB1 := Below.next hB c1; clear HST)
            obtain ⟨g, hCu0⟩ := cur_start hown
            replace hCu0 : Cur w0.heap.size 4 g sv w1 fun x => x := by
              rcases hCu0 with h | ⟨q1, q2, q3⟩
              · exact .inl h
              · exact .inr ⟨q1, Nat.le_trans hB.size q2, q3⟩
            obtain ⟨sa, sc, rfl⟩ := hCu0.slice
            have hRs0 : Rs x 0 (fl 4 fun x => x) := by rw [fl_id]; exact rs_range (by omega)
            have HSR0 : Hid (SrI x B (fl 4 fun x => x)) := (show SrI x B (fl 4 fun x => x) by rw [fl_id]; exact SrI.start)
            clear hown c1 hB x0 x1 hBw
            go_loopw [12] (fun _ wr => ∃ (f : Nat → Nat), Cur w0.heap.size 4 g (.slice sa 4 sc) wr f ∧ Rs x 0 (fl 4 f) ∧ Hid (SrI x B (fl 4 f)) ∧ Below w0.heap.size w0 wr) (fun _ wr => 41 ^ 4 - vlN (rdN wr g 4))
            case atStart => exact ⟨_, hCu0, hRs0, HSR0, hB1⟩
            case round =>
              clear hCu0 hRs0 HSR0 hB1
              obtain ⟨f, hCu, hRs, HSR, hB⟩ := hrel
              have hBw := Below.next HB0.out hB
              have C1 := HLI.out wr (fl 4 f) _ hBw hCu.sl (by rw [fl_len]; omega)
              have hbx := HBX.out _ hB
              obtain ⟨dd, hd1, hd2⟩ := undD
              obtain ⟨x0, x1⟩ := HC.out _ hB
              have hmz := HMZ.out (fl 4 f) hRs (fl_len 4 f)
              have hm4 := HM4.out (fl 4 f) HSR.out hRs (fl_len 4 f)
              have HNXT : Hid (liB B (fl 4 f) = true → ∀ s2, nx x (fl 4 f) = some s2 → SrI x B s2) := fun h s2 hn => HSR.out.next hRs (fl_len 4 f) h hn
              have HRD : Hid (rdN wr g 4 = fl 4 f) := hCu.rd
              have HRS : Hid (Rs x 0 (fl 4 f)) := hRs
              have HCU : Hid (Cur w0.heap.size 4 g (.slice sa 4 sc) wr f) := hCu
              obtain ⟨li, Hli⟩ : ∃ li, Hid (liB B (fl 4 f) = li) := ⟨_, rfl⟩
              rw [Hli.out] at C1 hmz hm4 HNXT
              clear hCu hRs HSR
              cases li
              · obtain rfl := hmz rfl
                clear hm4 HNXT
                go_wp2_with (first
                  | (refine wpList_load_row rfl 29 _ rfl w.heap.size rfl 29 _ (0, 0) _ hbx hd1 hd2 (infD2 _ _) ?_)
                  | (go_at_call 46; refine C1.mono ?_; rintro e w2 ⟨rfl, b2⟩; clear C1))
                go_ret
                exact ⟨rfl, Below.next hBw b2⟩
              · clear hmz
                cases hnx : nx x (fl 4 f) with
                | none =>
                  obtain rfl := hm4 rfl hnx
                  have CN : Hid (∀ W, Below wr.heap.size wr W → Calls Tryd.prog 64 #[.slice sa 4 sc, .int .i64 (x : Int)] W fun e w' => e = .returned (.bool false) ∧ Below w0.heap.size W w') := fun W hW => by
                    have h := NextSet_cur x w0.heap.size 4 g _ f W (by omega) h40 hv4 HRS.out (HCU.out.below hW)
                    rw [Nat.min_eq_left (Nat.le_trans hB.size hW.size)] at h
                    refine h.mono ?_
                    rintro e w' ⟨h', b⟩
                    refine ⟨?_, b⟩
                    rcases h' with ⟨f', _, h', _⟩ | ⟨h', _⟩
                    · rw [hnx] at h'; cases h'
                    · exact h'
                  clear hm4 HNXT hnx
                  go_wp2_with (first
                    | (refine wpList_load_row rfl 29 _ rfl w.heap.size rfl 29 _ (0, 0) _ hbx hd1 hd2 (infD2 _ _) ?_)
                    | (go_at_call 46; refine C1.mono ?_; rintro e w2 ⟨rfl, b2⟩; clear C1; obtain ⟨y0, y1⟩ := HC.out _ (Below.next hB b2))
                    | (go_at_call 64; refine (CN.out _ b2).mono ?_; rintro e w3 ⟨rfl, b3⟩; clear CN))
                  go_ret
                  exact ⟨rfl, Below.next HB0.out ((Below.next hB b2).trans b3)⟩
                | some s2 =>
                  have HSR2 : Hid (SrI x B s2) := HNXT.out rfl s2 hnx
                  have CN : Hid (∀ W, Below wr.heap.size wr W → Calls Tryd.prog 64 #[.slice sa 4 sc, .int .i64 (x : Int)] W fun e w' => (∃ f', e = .returned (.bool true) ∧ s2 = fl 4 f' ∧ Cur w0.heap.size 4 g (.slice sa 4 sc) w' f') ∧ Below w0.heap.size W w') := fun W hW => by
                    have h := NextSet_cur x w0.heap.size 4 g _ f W (by omega) h40 hv4 HRS.out (HCU.out.below hW)
                    rw [Nat.min_eq_left (Nat.le_trans hB.size hW.size)] at h
                    refine h.mono ?_
                    rintro e w' ⟨h', b⟩
                    refine ⟨?_, b⟩
                    rcases h' with ⟨f', h1, h', h2⟩ | ⟨_, h'⟩
                    · rw [hnx] at h'; exact ⟨f', h1, Option.some.inj h', h2⟩
                    · rw [hnx] at h'; cases h'
                  have h41 : ∀ s', Rs x 0 s' → ∀ y ∈ s', y < 41 := fun s' h y hy => by have := (Rs.mem h y hy).2; omega
                  have HME : Hid (∀ f' W, s2 = fl 4 f' → Cur w0.heap.size 4 g (.slice sa 4 sc) W f' → Rs x 0 (fl 4 f') ∧ 41 ^ 4 - vlN (rdN W g 4) < 41 ^ 4 - vlN (rdN wr g 4)) := fun f' W hn hc => by
                    rw [hn] at hnx
                    obtain ⟨q1, q2, q3, _⟩ := nx_some HRS.out hnx
                    refine ⟨q1, ?_⟩
                    rw [hc.rd, HRD.out]
                    have a1 := vlN_llt (h41 _ HRS.out) (h41 _ q1) q2.symm q3
                    have a2 := vlN_lt (h41 _ q1)
                    rw [fl_len] at a2
                    omega
                  clear hm4 HNXT hnx h41
                  go_wp2_with (first
                    | (refine wpList_load_row rfl 29 _ rfl w.heap.size rfl 29 _ (0, 0) _ hbx hd1 hd2 (infD2 _ _) ?_)
                    | (go_at_call 46; refine C1.mono ?_; rintro e w2 ⟨rfl, b2⟩; clear C1; obtain ⟨y0, y1⟩ := HC.out _ (Below.next hB b2))
                    | (go_at_call 64; refine (CN.out _ b2).mono ?_; rintro e w3 ⟨⟨f', rfl, hs2, hc3⟩, b3⟩; clear CN; have HM3' := HME.out f' w3 hs2 hc3; have HSR3 : Hid (SrI x B (fl 4 f')) := (show SrI x B (fl 4 f') by rw [← hs2]; exact HSR2.out); have hB3 := (Below.next hB b2).trans b3))
                  go_roundw
                  case rel => exact ⟨f', hc3, HM3'.1, HSR3, hB3⟩
                  case measure => exact HM3'.2

end Go.Proofs.YtgpkhfpejopacaaDoor
