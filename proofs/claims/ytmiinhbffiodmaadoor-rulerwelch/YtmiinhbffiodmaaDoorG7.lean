/- Sums of two, all unlike: the walks of sumsUnlike and Sidon. -/
import Derived.Test.YtmiinhbffiodmaaDoorG6
namespace Go.Proofs.YtmiinhbffiodmaaDoor
open Go.RowKit Go.Maps

theorem undN : Tryd.prog.underlying 66 = some (.map 3 3) := by kernel_rfl
theorem law3 : Keyed Tryd.prog 3 := int_keyed und3
/-- The pairs that have come: those of the rows below i, and j of the i-th. -/
def Bf (n i j a b : Nat) : Prop := a ≤ b ∧ b < n ∧ (a < i ∨ (a = i ∧ b < i + j))
/-- What has come has come once; T tells what. -/
def SumI (s : Nat → Nat → Nat) (n i j : Nat) (T : Nat → Int) : Prop := (∀ c, T c = 0 ∨ T c = 1) ∧ (∀ c, T c = 1 ↔ ∃ a b, Bf n i j a b ∧ s a b = c) ∧ ∀ a b c d, Bf n i j a b → Bf n i j c d → s a b = s c d → a = c ∧ b = d
theorem SumI.start (s : Nat → Nat → Nat) (n : Nat) : SumI s n 0 0 (fun _ => 0) := by
  refine ⟨fun _ => .inl rfl, fun c => ⟨fun h => ?_, fun h => ?_⟩, fun a b c d h => ?_⟩
  · have h : (0 : Int) = 1 := h
    omega
  · obtain ⟨a, b, ⟨h1, h2, h3⟩, _⟩ := h
    omega
  · obtain ⟨h1, h2, h3⟩ := h
    omega
theorem SumI.next {s : Nat → Nat → Nat} {n i j : Nat} {T : Nat → Int} (h : SumI s n i j T) (hj : i + j < n) (h0 : T (s i (i + j)) = 0) : SumI s n i (j + 1) (fun c => if c = s i (i + j) then 1 else T c) := by
  have hnew : ∀ a b, Bf n i (j + 1) a b → (a = i ∧ b = i + j) ∨ Bf n i j a b := fun a b ⟨h1, h2, h3⟩ => by
    by_cases e : a = i ∧ b = i + j
    · exact .inl e
    · exact .inr ⟨h1, h2, by omega⟩
  have hold : ∀ a b, Bf n i j a b → s a b ≠ s i (i + j) := fun a b hb e => by
    have := (h.2.1 (s i (i + j))).2 ⟨a, b, hb, e⟩
    omega
  refine ⟨fun c => ?_, fun c => ?_, fun a b c d ha hc e => ?_⟩
  · show (if c = s i (i + j) then (1 : Int) else T c) = 0 ∨ (if c = s i (i + j) then (1 : Int) else T c) = 1
    split
    · exact .inr rfl
    · exact h.1 c
  · show (if c = s i (i + j) then (1 : Int) else T c) = 1 ↔ _
    split
    · rename_i e
      exact ⟨fun _ => ⟨i, i + j, ⟨by omega, hj, .inr ⟨rfl, by omega⟩⟩, e.symm⟩, fun _ => rfl⟩
    · rename_i e
      rw [h.2.1 c]
      constructor
      · rintro ⟨a, b, ⟨h1, h2, h3⟩, e2⟩
        exact ⟨a, b, ⟨h1, h2, by omega⟩, e2⟩
      · rintro ⟨a, b, hb, e2⟩
        rcases hnew a b hb with ⟨rfl, rfl⟩ | hb'
        · exact absurd e2.symm e
        · exact ⟨a, b, hb', e2⟩
  · rcases hnew a b ha with ⟨rfl, rfl⟩ | ha' <;> rcases hnew c d hc with ⟨rfl, rfl⟩ | hc'
    · exact ⟨rfl, rfl⟩
    · exact absurd e.symm (hold c d hc')
    · exact absurd e (hold a b ha')
    · exact h.2.2 a b c d ha' hc' e
theorem SumI.row {s : Nat → Nat → Nat} {n i j : Nat} {T : Nat → Int} (h : SumI s n i j T) (hj : i + j = n) : SumI s n (i + 1) 0 T := by
  have e : ∀ a b, Bf n i j a b ↔ Bf n (i + 1) 0 a b := fun a b => by unfold Bf; omega
  refine ⟨h.1, fun c => ?_, fun a b c d ha hc => h.2.2 a b c d ((e a b).2 ha) ((e c d).2 hc)⟩
  rw [h.2.1 c]
  simp only [e]
/-- The sum of two of a set. -/
def smF (v : Nat) (l : List Nat) (a b : Nat) : Nat := (l.getD a 0 + l.getD b 0) % v
theorem sum_no {v : Nat} {l : List Nat} {i j : Nat} {T : Nat → Int} (h : SumI (smF v l) l.length i j T) (hj : i + j < l.length) (h1 : T (smF v l i (i + j)) ≠ 0) : sidB v l = false := by
  obtain ⟨a, b, ⟨k1, k2, k3⟩, e⟩ := (h.2.1 _).1 (by rcases h.1 (smF v l i (i + j)) with h0 | h0; exact absurd h0 h1; exact h0)
  cases hs : sidB v l with
  | false => rfl
  | true =>
    have hu := sidB_iff.1 hs
    have := hu (b + 1) a (i + j + 1) i (by omega) (by omega) (by omega) (by omega) (by
      unfold sdF
      rw [Nat.add_sub_cancel, Nat.add_sub_cancel, Nat.add_comm (l.getD b 0), Nat.add_comm (l.getD (i + j) 0)]
      exact congrArg Int.ofNat e)
    omega
theorem sum_yes {v : Nat} {l : List Nat} {T : Nat → Int} (h : SumI (smF v l) l.length l.length 0 T) : sidB v l = true := by
  refine sidB_iff.2 fun i j k m hj hi hm hk e => ?_
  obtain ⟨a, rfl⟩ : ∃ a, i = a + 1 := ⟨i - 1, by omega⟩
  obtain ⟨c, rfl⟩ : ∃ c, k = c + 1 := ⟨k - 1, by omega⟩
  unfold sdF at e
  rw [Nat.add_sub_cancel, Nat.add_sub_cancel] at e
  have := h.2.2 j a m c ⟨by omega, by omega, by omega⟩ ⟨by omega, by omega, by omega⟩ (by
    unfold smF
    rw [Nat.add_comm (l.getD j 0), Nat.add_comm (l.getD m 0)]
    exact Int.ofNat.inj e)
  omega
/-- What a map of sums reads as. -/
def SmIs (D : DataW Unit) (T : Nat → Int) : Prop := ∀ c : Nat, D.atKey (.int .i64 (c : Int)) (.lit (.int .i64 0)) = .lit (.int .i64 (T c))
theorem SmIs.empty : SmIs (.map []) (fun _ => 0) := fun c => by simp [DataW.atKey]
theorem SmIs.look {D : DataW Unit} {T : Nat → Int} (h : SmIs D T) {c : Nat} {x : Int} (hat : D.atKey (.int .i64 (c : Int)) (.lit (.int .i64 0)) = .lit (.int .i64 x)) : x = T c := by
  rw [h c] at hat
  simp only [DataW.lit.injEq, Lit.int.injEq, true_and] at hat
  exact hat.symm
theorem SmIs.put {D : DataW Unit} {T : Nat → Int} (h : SmIs D T) (hD : IsMap D) (c : Nat) (x : Int) : SmIs (D.put (.int .i64 (c : Int)) (.lit (.int .i64 x))) (fun d => if d = c then x else T d) := fun d => by
  have hk : WideAt.IsKeyLit (.int .i64 (c : Int)) := trivial
  by_cases e : d = c
  · subst e
    rw [atKey_put_same hD hk]
    simp
  · rw [atKey_put_other (by simp; omega), h d]
    simp [e]
theorem cut22 (b o i n k cap : Nat) (h : i < n) (hc : n ≤ cap) (hk : n = i + k) (W : World) : (Instr.sliceAt 22 (.slice (some ⟨b, o, none⟩) n cap) (some (.int .i64 (i : Int))) none none).run Tryd.prog W = .ok (.slice (some ⟨b, o + i, none⟩) k (cap - i)) W := by
  have h1 : (i : Int) ≤ (n : Int) := by omega
  have h2 : ¬ cap = i := by omega
  have h3 : n - i = k := by omega
  go_simp
  intro q
  omega
set_option maxRecDepth 100000 in
set_option maxHeartbeats 8000000 in
theorem sumsUnlike_any (v : Nat) (l : List Nat) (a : Option Addr) (cap : Nat) (w : World) (h1 : 1 ≤ v) (h60v : v ≤ 60) (hu : Sl w (.slice a l.length cap) (l.map Int.ofNat)) (hcap : l.length ≤ cap) (h60 : l.length ≤ 60) (hb : ∀ x ∈ l, x < v) :
    Calls Tryd.prog 34 #[.slice a l.length cap, .int .i64 (v : Int)] w fun e w' => e = .returned (.bool (sidB v l)) ∧ Below w.heap.size w w' := by
  have hmm := @run_makeMap Tryd.prog
  have HUB : Hid (∀ j, j < l.length → ∃ g o, a = some ⟨g, o, none⟩ ∧ ∀ W, Below w.heap.size w W → W.cell? ⟨g, o + j, none⟩ = some (.int .i64 ((l.getD j 0 : Nat) : Int))) := fun j hj => by
    obtain ⟨a', c', e', hub⟩ := hu
    rw [List.length_map] at hub
    simp only [Value.slice.injEq] at e'
    obtain ⟨g, o, e, hc⟩ := hub j hj
    rw [getD_of] at hc
    exact ⟨g, o, e'.1.trans e, fun W bW => (bW.cell (World.block_lt_of_cell? _ _ hc)).trans hc⟩
  have HV : Hid (∀ i, i < l.length → l.getD i 0 < v) := fun i hi => by
    rw [List.getD_eq_getElem?_getD, List.getElem?_eq_getElem hi]; exact hb _ (List.getElem_mem hi)
  have HNO : Hid (∀ (i j : Nat) (T : Nat → Int), SumI (smF v l) l.length i j T → i + j < l.length → T (smF v l i (i + j)) ≠ 0 → sidB v l = false) := fun i j T h hj h1 => sum_no h hj h1
  have HYES : Hid (∀ T, SumI (smF v l) l.length l.length 0 T → sidB v l = true) := fun T h => sum_yes h
  obtain ⟨z, Hz⟩ : ∃ z, Hid (sidB v l = z) := ⟨_, rfl⟩
  rw [Hz.out] at HNO HYES ⊢
  have hST := SumI.start (smF v l) l.length
  generalize hn : l.length = n at *
  obtain ⟨B, HB⟩ : ∃ B, Hid (w.heap.size = B) := ⟨_, rfl⟩
  have hv0 : ¬ (v : Int) = 0 := by omega
  have hv0' : ¬ v = 0 := by omega
  clear hu hb
  go_enter Tryd.func34, Tryd.ntmps34
  go_wp2
  go_loopw [14] (fun iv wr => ∃ (i : Nat) (D : DataW Unit) (T : Nat → Int), iv = .int .i64 (i : Int) ∧ i ≤ n ∧ wr.ownsMap Tryd.prog 3 (plainElem Tryd.prog 3) w.heap.size (i * 100) D ∧ Hid (SmIs D T) ∧ Hid (SumI (smF v l) n i 0 T) ∧ Below w.heap.size w wr) (fun iv _ => (n - intOf iv).toNat)
  case atStart =>
    exact ⟨0, .map [], _, rfl, by omega, (World.ownsMap_made _ _ _ _).mono (by omega), SmIs.empty, hST, balloc _ _⟩
  case round =>
    clear hST
    obtain ⟨i, D, T, rfl, hi, hown, HT, HI, hB⟩ := hrel
    by_cases hlt : i < n
    · have hdi : decide ((i : Int) < (n : Int)) = true := by simp; omega
      have hii : (i : Int) < (n : Int) := by omega
      obtain ⟨g, o, rfl, hc0⟩ := HUB.out i hlt
      have hc := hc0 _ hB
      have hxv := HV.out i hlt
      obtain ⟨k, Hk⟩ : ∃ k, Hid (n = i + k) := ⟨n - i, (by omega : n = i + (n - i))⟩
      have hcut := cut22 g o i n k cap hlt hcap Hk.out
      have HCE : Hid (∀ j, j < k → ∀ W, Below w.heap.size w W → W.cell? ⟨g, o + i + j, none⟩ = some (.int .i64 ((l.getD (i + j) 0 : Nat) : Int))) := fun j hj W hW => by
        obtain ⟨g', o', e, h⟩ := HUB.out (i + j) (by have := Hk.out; omega)
        simp only [Option.some.injEq, Addr.mk.injEq] at e
        rw [e.1, e.2.1, Nat.add_assoc]
        exact h W hW
      have HSM : Hid (∀ j, smF v l i (i + j) = (l.getD i 0 + l.getD (i + j) 0) % v) := fun j => rfl
      obtain ⟨x, Hx⟩ : ∃ x, Hid (l.getD i 0 = x) := ⟨_, rfl⟩
      rw [Hx.out] at hc hxv HSM
      have hkb : k ≤ 60 := by have := Hk.out; omega
      clear hc0
      go_wp2
      go_loopw [23] (fun jv wr' => ∃ (j : Nat) (D : DataW Unit) (T : Nat → Int), jv = .int .i64 (j : Int) ∧ j ≤ k ∧ wr'.ownsMap Tryd.prog 3 (plainElem Tryd.prog 3) w.heap.size (i * 100 + j) D ∧ Hid (SmIs D T) ∧ Hid (SumI (smF v l) n i j T) ∧ Below w.heap.size w wr') (fun jv _ => (k - intOf jv).toNat)
      case atStart => exact ⟨0, D, T, rfl, by omega, hown, HT, HI, hB⟩
      case round =>
        clear hown HT HI hB hc hcut
        obtain ⟨j, D, T, rfl, hj, hown, HT, HI, hB⟩ := hrel
        by_cases hlj : j < k
        · have hdj : decide ((j : Int) < (k : Int)) = true := by simp; omega
          have hji : (j : Int) < (k : Int) := by omega
          have hcj := HCE.out j hlj _ hB
          have hyv := HV.out (i + j) (by have := Hk.out; omega)
          have hsm := HSM.out j
          obtain ⟨y, Hy⟩ : ∃ y, Hid (l.getD (i + j) 0 = y) := ⟨_, rfl⟩
          rw [Hy.out] at hcj hyv hsm
          have hno := HNO.out i j T HI.out (by have := Hk.out; omega)
          have hnx := HI.out.next (by have := Hk.out; omega)
          obtain ⟨s, Hs⟩ : ∃ s, Hid (smF v l i (i + j) = s) := ⟨_, rfl⟩
          rw [Hs.out] at hsm hno hnx
          have hrem : ((x : Int) + (y : Int)).tmod (v : Int) = (s : Int) := by rw [hsm]; rfl
          have hsv : s < v := by rw [hsm]; exact Nat.mod_lt _ (by omega)
          have hT1 := HI.out.1 s
          clear hsm
          by_cases ht0 : T s = 0
          · have HNX : Hid (SumI (smF v l) n i (j + 1) (fun c => if c = s then 1 else T c)) := hnx ht0
            have HT0 : Hid (T s = 0) := ht0
            clear hno hnx ht0 hT1
            go_wp2_with (first
              | (at_lookup; refine wpList_lookup_own_int _ rfl _ _ 66 rfl 3 3 .i64 law3 undN und3 (zero3' _) w.heap.size _ _ rfl hown4 _ _ rfl (keyOf_int_mk und3 (wfI (by omega) (by omega))) ?_; intro t2 hatt2 hwt2
                 obtain rfl : t2 = 1 := by rw [HT4.out.look hatt2]; simp
                 clear hatt2 hwt2)
              | (at_lookup; refine wpList_lookup_own_int _ rfl _ _ 66 rfl 3 3 .i64 law3 undN und3 (zero3' _) w.heap.size _ _ rfl hown _ _ rfl (keyOf_int_mk und3 (wfI (by omega) (by omega))) ?_; intro t hatt hwt
                 obtain rfl : t = 0 := (HT.out.look hatt).trans HT0.out
                 clear hatt hwt)
              | (at_mapUpdate; refine wpList_mapUpdate_own _ rfl _ _ _ 66 rfl 3 3 law3 undN _ w.heap.size _ _ rfl hown (by unfold maxLen; omega) _ _ _ rfl rfl (keyOf_int_mk und3 (wfI (by omega) (by omega))) _ [] (plainElem_int und3 (wfI (by omega) (by omega))) ?_; intro w4 hown4 hg4; go_frame
                 have hB4 : Below w.heap.size w w4 := hB.grown hg4 hB.size (fun j hj => by cases hj; exact Nat.le_refl _)
                 have HT4 : Hid (SmIs _ (fun c => if c = s then 1 else T c)) := HT.out.put hown.isMap s 1)
              | go_in)
            go_roundw
            case rel => exact ⟨j + 1, _, _, by go_num, by omega, hown4.mono (by omega), HT4, HNX, hB4⟩
            case measure => simp [intOf]; omega
          · have ht1 : T s = 1 := by omega
            have HT0 : Hid (T s = 1) := ht1
            obtain rfl := hno ht0
            clear hno hnx ht0 hT1 ht1
            go_wp2_with (first
              | (at_lookup; refine wpList_lookup_own_int _ rfl _ _ 66 rfl 3 3 .i64 law3 undN und3 (zero3' _) w.heap.size _ _ rfl hown4 _ _ rfl (keyOf_int_mk und3 (wfI (by omega) (by omega))) ?_; intro t2 hatt2 hwt2
                 obtain rfl : t2 = 2 := by rw [HT4.out.look hatt2]; simp
                 clear hatt2 hwt2)
              | (at_lookup; refine wpList_lookup_own_int _ rfl _ _ 66 rfl 3 3 .i64 law3 undN und3 (zero3' _) w.heap.size _ _ rfl hown _ _ rfl (keyOf_int_mk und3 (wfI (by omega) (by omega))) ?_; intro t hatt hwt
                 obtain rfl : t = 1 := (HT.out.look hatt).trans HT0.out
                 clear hatt hwt)
              | (at_mapUpdate; refine wpList_mapUpdate_own _ rfl _ _ _ 66 rfl 3 3 law3 undN _ w.heap.size _ _ rfl hown (by unfold maxLen; omega) _ _ _ rfl rfl (keyOf_int_mk und3 (wfI (by omega) (by omega))) _ [] (plainElem_int und3 (wfI (by omega) (by omega))) ?_; intro w4 hown4 hg4; go_frame
                 have hB4 : Below w.heap.size w w4 := hB.grown hg4 hB.size (fun j hj => by cases hj; exact Nat.le_refl _)
                 have HT4 : Hid (SmIs _ (fun c => if c = s then 2 else T c)) := HT.out.put hown.isMap s 2)
              | go_in)
            go_ret
            exact ⟨rfl, hB4⟩
        · have hdj : decide ((j : Int) < (k : Int)) = false := by simp; omega
          obtain rfl : j = k := by omega
          have HI2 : Hid (SumI (smF v l) n (i + 1) 0 T) := HI.out.row Hk.out.symm
          clear HI
          go_wp2
          go_roundw
          case rel => exact ⟨i + 1, D, T, by go_num, by omega, hown.mono (by omega), HT, HI2, hB⟩
          case measure => simp [intOf]; omega
    · have hdi : decide ((i : Int) < (n : Int)) = false := by simp; omega
      obtain rfl : i = n := by omega
      obtain rfl := HYES.out T HI.out
      go_wp2
      go_ret
      exact ⟨rfl, hB⟩

set_option maxRecDepth 100000 in
set_option maxHeartbeats 4000000 in
theorem Sidon_bad (p : Int) (b : List Int) (u : Value) (w : World) (hu : Sl w u b) (hbl : b.length ≤ maxLen) (hm : sF p b ≠ 0) :
    Calls Tryd.prog 18 #[u, .int .i64 p] w fun e w' => e = .returned (.tuple #[.bool false, .int .i64 (sF p b : Int)]) ∧ Below w.heap.size w w' := by
  have C := CheckS_any p b u w hu hbl
  obtain ⟨z, Hz⟩ : ∃ z, Hid (sF p b = z) := ⟨_, rfl⟩
  rw [Hz.out] at C hm ⊢
  have hz : ((z : Int) != 0) = true := by simpa using hm
  have hz2 : ¬ (z : Int) = 0 := by omega
  clear hu hbl
  go_enter Tryd.func18, Tryd.ntmps18
  go_wp2_with (go_at_call 33; refine C.mono ?_; rintro e w1 ⟨rfl, b1⟩; clear C)
  exact bodyPost_ret (v := .tuple #[.bool false, .int .i64 (z : Int)]) (by simp [results, Tryd.results18, go_sem]) rfl ⟨rfl, b1⟩
set_option maxRecDepth 100000 in
set_option maxHeartbeats 4000000 in
theorem Sidon_good (v : Nat) (D : List Nat) (a : Option Addr) (cap : Nat) (w : World) (hu : Sl w (.slice a D.length cap) (D.map Int.ofNat)) (hcap : D.length ≤ cap) (hD : GoodS v D) :
    Calls Tryd.prog 18 #[.slice a D.length cap, .int .i64 (v : Int)] w fun e w' => e = .returned (.tuple #[.bool (sidB v D), .int .i64 0]) ∧ Below w.heap.size w w' := by
  have hlen := hD.len
  have hle := hD.le
  have C := CheckS_any v _ _ w hu (by rw [List.length_map]; unfold maxLen; omega)
  rw [sF_of hD] at C
  have HC : Hid (∀ W, Below w.heap.size w W → Calls Tryd.prog 34 #[.slice a D.length cap, .int .i64 (v : Int)] W fun e w' => e = .returned (.bool (sidB v D)) ∧ Below W.heap.size W w') := fun W hW => sumsUnlike_any v D a cap W hD.pos hD.le (hu.below hW) hcap (by omega) hD.lt
  clear hu
  generalize D.length = n at *
  go_enter Tryd.func18, Tryd.ntmps18
  go_wp2_with (first
    | (go_at_call 33; refine C.mono ?_; rintro e w1 ⟨rfl, b1⟩; clear C)
    | (go_at_call 34; refine (HC.out _ b1).mono ?_; rintro e w2 ⟨rfl, b2⟩))
  exact bodyPost_ret (v := .tuple #[.bool (sidB v D), .int .i64 0]) (by simp [results, Tryd.results18, go_sem]) rfl ⟨rfl, Below.next b1 b2⟩

end Go.Proofs.YtmiinhbffiodmaaDoor
