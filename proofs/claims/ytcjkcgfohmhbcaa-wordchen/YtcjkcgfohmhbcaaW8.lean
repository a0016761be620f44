/- The document's NextOf, walked: the first digit that can be raised makes a Lyndon word at once. -/
import Derived.Test.YtcjkcgfohmhbcaaW7
import Derived.Test.YtcjkcgfohmhbcaaWdN
namespace Go.Proofs.Ytcjkcgfohmhbcaa
open Go.RowKit

/-- The last place whose number can be raised. -/
def nxI (k : Int) (M : List Nat) : Nat → Option Nat
  | 0 => none
  | i + 1 => if ((M.getD i 0 : Nat) : Int) + 1 < k then some i else nxI k M i
def nxZ (k : Int) (M : List Nat) : List Nat := match nxI k M M.length with
  | none => []
  | some i => M.take i ++ [M.getD i 0 + 1]
def nxE (k : Int) (M : List Nat) : Nat := if (nxI k M M.length).isSome then 0 else 4
theorem nxI_is {k : Int} {M : List Nat} : ∀ {n i : Nat}, nxI k M n = some i → i < n ∧ ((M.getD i 0 : Nat) : Int) + 1 < k ∧ ∀ j, i < j → j < n → ¬ ((M.getD j 0 : Nat) : Int) + 1 < k
  | 0, i, h => by cases h
  | n + 1, i, h => by
    unfold nxI at h
    by_cases hk : ((M.getD n 0 : Nat) : Int) + 1 < k
    · rw [if_pos hk] at h
      cases h
      exact ⟨Nat.lt_succ_self _, hk, fun j h1 h2 => by omega⟩
    · rw [if_neg hk] at h
      obtain ⟨h1, h2, h3⟩ := nxI_is h
      refine ⟨by omega, h2, fun j h4 h5 => ?_⟩
      by_cases e : j = n
      · rw [e]; exact hk
      · exact h3 j h4 (by omega)
theorem split_at {M : List Nat} {i : Nat} (hi : i < M.length) : M = M.take i ++ M.getD i 0 :: M.drop (i + 1) := by
  conv => lhs; rw [← List.take_append_drop i M]
  rw [List.drop_eq_getElem_cons hi, List.getD_eq_getElem?_getD, List.getElem?_eq_getElem hi]
  rfl
theorem nx_lyn {k : Int} {M : List Nat} {n i : Nat} (hM : Lyn M) (hn : n ≤ M.length) (h : nxI k M n = some i) : Lyn (M.take i ++ [M.getD i 0 + 1]) := by
  obtain ⟨h1, h2, _⟩ := nxI_is h
  rw [split_at (M := M) (i := i) (by omega)] at hM
  exact Lyn.up hM (Nat.lt_succ_self _)
theorem nx_behind {k : Int} {M : List Nat} {n i : Nat} (hn : n ≤ M.length) (h : nxI k M n = some i) : Ah M (M.take i ++ [M.getD i 0 + 1]) := by
  obtain ⟨h1, h2, _⟩ := nxI_is h
  have := up_behind (M.take i) (M.drop (i + 1)) (M.getD i 0)
  rw [← split_at (M := M) (i := i) (by omega)] at this
  exact this
theorem Wd.news {w : World} {b o n c : Nat} {M : List Nat} (h : Wd w (.slice (Option.some ⟨b, o, none⟩) n c) M) : ∀ j u, (nz M)[j]? = Option.some u → w.cell? ((⟨b, o, none⟩ : Addr).add j) = Option.some u := fun j u hj => by
  obtain ⟨a', c', e, -, hcell⟩ := h
  cases e
  have hjl : j < M.length := by
    have := (List.getElem?_eq_some_iff.1 hj).1
    simpa [nz] using this
  obtain ⟨b', o', e, hci⟩ := hcell j hjl
  cases e
  have e2 : ((⟨b, o, none⟩ : Addr).add j) = ⟨b, o + j, none⟩ := by simp [Addr.add]
  rw [e2, hci, ← hj]
  simp [nz, hjl]
theorem nz_one (L : List Nat) : ∀ u ∈ nz L, u.oneCell' = true := fun u hu => by
  obtain ⟨x, -, rfl⟩ := List.mem_map.1 hu
  rfl
theorem ORow.own {w : World} {base : Nat} {v : Value} {M : List Nat} (h : ORow w base v M) : Wd w v M := by
  rcases Nat.eq_zero_or_pos M.length with h0 | h0
  · have e : M = [] := List.length_eq_zero_iff.1 h0
    subst e
    obtain ⟨a, c, rfl⟩ := own_form h
    exact ⟨a, c, rfl, Nat.zero_le _, fun j hj => absurd hj (Nat.not_lt_zero j)⟩
  · obtain ⟨g, cap, rfl, -, -, hc⟩ := own_cells (L := M) h h0
    refine ⟨_, cap, rfl, ?_, fun j hj => ⟨g, 0, rfl, by rw [Nat.zero_add]; exact hc j hj⟩⟩
    obtain ⟨-, h2 | ⟨g', cap', cur, h3, -, -, h5, -⟩⟩ := h
    · cases h2.1
    · cases h3
      omega
set_option maxRecDepth 100000 in
set_option maxHeartbeats 8000000 in
theorem least_lyn (kk L : Int) (M : List Nat) (v : Value) (w : World) (hv : Wd w v M) (hl : M.length ≤ 4096) (hy : lyB M = true) :
    Calls Try.prog 40 #[.int .i64 kk, v, .int .i64 L] w fun e w' => e = .returned (.tuple #[v, .bool true]) ∧ Below w.heap.size w w' := by
  have C := LyndonOf_any M v w hv hl
  rw [hy] at C
  go_enter Try.func40, Try.ntmps40
  go_wp2_with (first
    | (go_at_call 17; refine C.mono ?_; rintro e w2 ⟨rfl, hb2⟩; clear C)
    | go_in)
  go_ret2
  exact ⟨rfl, hb2⟩
set_option maxRecDepth 100000 in
set_option maxHeartbeats 8000000 in
theorem NextOf_any (kk : Int) (M : List Nat) (v : Value) (w : World) (hv : Wd w v M) (hl : M.length ≤ 4096) (hd9 : ∀ x ∈ M, x ≤ 9) (hy : lyB M = true) :
    Calls Try.prog 25 #[.int .i64 kk, v] w fun e w' => (∃ y, e = .returned (.tuple #[y, .int .i64 (nxE kk M : Int)]) ∧ ORow w' w.heap.size y (nxZ kk M)) ∧ Below w.heap.size w w' := by
  obtain ⟨i3, ki3, kz0, kz1, kz2⟩ := info3
  have h0 : 0 < M.length := by
    have := ((lyB_is M).1 hy).1
    rcases Nat.eq_zero_or_pos M.length with h | h
    · exact absurd (List.length_eq_zero_iff.1 h) this
    · exact h
  obtain ⟨b, o, c, rfl, hc⟩ := hv.some h0
  have HL : Hid (∀ n i, n ≤ M.length → nxI kk M n = some i → lyB (M.take i ++ [M.getD i 0 + 1]) = true) := fun n i hn h => (lyB_is _).2 (nx_lyn ((lyB_is M).1 hy) hn h)
  have HWR : Hid (∀ W, Below w.heap.size w W → Wd W (.slice (some ⟨b, o, none⟩) M.length c) M) := fun W b => hv.below b
  have H9 : Hid (∀ i, i < M.length → M.getD i 0 ≤ 9) := fun i hi => by
    rw [List.getD_eq_getElem?_getD, List.getElem?_eq_getElem hi]
    exact hd9 _ (List.getElem_mem _)
  obtain ⟨m, Hm⟩ : ∃ m, Hid (M.length = m) := ⟨_, rfl⟩
  have HE : Hid (nxE kk M = if (nxI kk M m).isSome then 0 else 4) := by show _ = _; rw [← Hm.out]; rfl
  have HZS : Hid (∀ i, nxI kk M m = some i → nxZ kk M = M.take i ++ [M.getD i 0 + 1]) := fun i h => by unfold nxZ; rw [Hm.out, h]
  have HZN : Hid (nxI kk M m = none → nxZ kk M = []) := fun h => by unfold nxZ; rw [Hm.out, h]
  have HSS : Hid (∀ i, ((M.getD i 0 : Nat) : Int) + 1 < kk → nxI kk M (i + 1) = some i) := fun i h => by unfold nxI; rw [if_pos h]
  have HSN : Hid (∀ i, ¬ ((M.getD i 0 : Nat) : Int) + 1 < kk → nxI kk M (i + 1) = nxI kk M i) := fun i h => by
    show (if ((M.getD i 0 : Nat) : Int) + 1 < kk then some i else nxI kk M i) = _
    rw [if_neg h]
  have HCL : Hid (∀ W, Below w.heap.size w W → ∀ i, i < M.length → W.cell? ⟨b, o + i, none⟩ = some (.int .i64 ((M.getD i 0 : Nat) : Int))) := fun W bW i hi => by
    obtain ⟨a', c', e, -, hcell⟩ := HWR.out W bW
    cases e
    obtain ⟨b', o', e, hci⟩ := hcell i hi
    cases e
    exact hci
  obtain ⟨E, HEQ⟩ : ∃ E, Hid (nxE kk M = E) := ⟨_, rfl⟩
  obtain ⟨Z, HZQ⟩ : ∃ Z, Hid (nxZ kk M = Z) := ⟨_, rfl⟩
  rw [HEQ.out] at HE
  rw [HZQ.out] at HZS HZN
  rw [HEQ.out, HZQ.out]
  rw [Hm.out] at HL HWR HCL H9 hc h0 hl ⊢
  have hmw : IntKind.i64.wrap ((m : Int) - 1) = (m : Int) - 1 := IntWalk.i64_in _ (by omega)
  clear hv hy hd9
  go_enter Try.func25, Try.ntmps25
  go_wp2
  go_loopw [6] (fun iv wr => ∃ j : Nat, iv = .int .i64 ((j : Int) - 1) ∧ j ≤ m ∧ Hid (nxI kk M m = nxI kk M j) ∧ wr = w) (fun iv _ => (intOf iv + 1).toNat)
  case atStart => exact ⟨m, rfl, by omega, rfl, rfl⟩
  case round =>
    obtain ⟨j, rfl, hj, HI, e1⟩ := hrel
    subst e1
    by_cases hj0 : 0 < j
    · obtain ⟨i, rfl⟩ : ∃ i, j = i + 1 := ⟨j - 1, by omega⟩
      have ei : ((i + 1 : Nat) : Int) - 1 = (i : Int) := by omega
      rw [ei]
      have hdi : decide ((0 : Int) ≤ (i : Int)) = true := by simp
      have him : (i : Int) < (m : Int) := by omega
      have hi0 : (0 : Int) ≤ (i : Int) := by omega
      have hic : (i : Int) ≤ (c : Int) := by omega
      have hil : (i : Int) ≤ (m : Int) := by omega
      have hmc : (m : Int) ≤ (c : Int) := by omega
      have hi64 : (i : Int) < 2 ^ 62 := by omega
      have hci := HCL.out wr (Below.refl _ _) i (by omega)
      have h9 := H9.out i (by omega)
      have hss := HSS.out i
      have hsn := HSN.out i
      obtain ⟨x, Hx⟩ : ∃ x, Hid (M.getD i 0 = x) := ⟨_, rfl⟩
      rw [Hx.out] at hci h9 hss hsn
      have hxw : IntKind.i64.wrap ((x : Int) + 1) = (x : Int) + 1 := IntWalk.i64_in _ (by omega)
      have hiw : IntKind.i64.wrap ((i : Int) - 1) = (i : Int) - 1 := IntWalk.i64_in _ (by omega)
      by_cases hk : (x : Int) + 1 < kk
      · have hdk : decide ((x : Int) + 1 < kk) = true := by simpa using hk
        have hsi := hss hk
        have HZ : Hid (Z = M.take i ++ [x + 1]) := by show _ = _; rw [← Hx.out]; exact HZS.out i (by rw [HI.out]; exact hsi)
        have HEE : Hid (E = 0) := by show _ = _; rw [HE.out, HI.out, hsi]; rfl
        have HLY : Hid (lyB (M.take i ++ [x + 1]) = true) := by show _ = _; rw [← Hx.out]; exact HL.out (i + 1) i (by omega) hsi
        have hl0 : (wr.alloc (.cells #[] 3)).ownsRow wr.heap.size 3 1 (.slice (some ⟨wr.heap.size, 0, none⟩) 0 0) 0 (nz []) := ⟨rfl, .inr ⟨wr.heap.size, 0, #[], rfl, Nat.le_refl _, heap_alloc_new wr _, by omega, by unfold maxLen; omega, rfl, rfl⟩⟩
        have hb0 := balloc wr (.cells #[] 3)
        have htk := (HWR.out _ hb0).take (i := i) (by omega)
        clear hss hsn
        go_wp2
        go_loopw [7] (fun xv ur => xv = .int .i64 ((x : Int) + 1) ∧ ur = wr) (fun _ _ => 0)
        case atStart => exact ⟨rfl, rfl⟩
        case round =>
          obtain ⟨rfl, e2⟩ := hrel
          subst e2
          go_wp2_with (first
            | (at_builtin; refine wpList_append_own _ rfl _ _ 22 rfl _ 3 i3 (.int .i64 0) 1 8 und22 ki3 kz0 kz1 kz2 rfl (by decide) _ _ _ rfl hl0 ⟨b, o, none⟩ i c (nz (M.take i)) rfl ?d0 htk.news (nz_one _) ?d3 ?d4 ?d5 ?_)
            | go_in)
          case d0 => have := Hm.out; simp [nz]; omega
          case d3 => unfold maxLen; omega
          case d4 => omega
          case d5 => simp
          intro v1 w1 hown1 hgrow1 _
          have hb1 : Below wr.heap.size wr w1 := hb0.grown hgrow1 (by simp) (fun k hk => (hl0.lt k hk).1)
          rw [show nz [] ++ nz (M.take i) = nz (M.take i) from rfl] at hown1
          obtain ⟨xa, xc, rfl⟩ := own_form hown1
          have hw1s := hb1.size
          go_wp2_with (first
            | (at_builtin; refine wpList_append_own _ rfl _ _ 22 rfl wr.heap.size 3 i3 (.int .i64 0) 1 8 und22 ki3 kz0 kz1 kz2 rfl (by decide) _ _ _ rfl (hown1.alloc _) ⟨w1.heap.size, 0, none⟩ 1 1 [.int .i64 ((x : Int) + 1)] rfl rfl ?c1 ?c2 ?c3 ?c4 ?c5 ?_)
            | go_in)
          case c1 =>
            intro j u hj
            match j, hj with
            | 0, hj => simp at hj; subst hj; simp [Addr.add]
          case c2 => intro u hu; simp at hu; subst hu; rfl
          case c3 => unfold maxLen; omega
          case c4 => omega
          case c5 => simp; omega
          intro v2 w2 hown2 hgrow2 _
          have hb2 : Below wr.heap.size wr w2 := (hb1.alloc hw1s _).grown hgrow2 (by simp; omega) (fun k hk => (hown1.lt k hk).1)
          rw [show nz (M.take i) ++ [Value.int .i64 ((x : Int) + 1)] = nz (M.take i ++ [x + 1]) from (nz_more _ (x + 1)).symm] at hown2
          have hlen : (M.take i ++ [x + 1]).length = i + 1 := by have := Hm.out; simp; omega
          have hO2 : ORow w2 wr.heap.size v2 (M.take i ++ [x + 1]) := by unfold ORow; rw [hlen]; exact hown2
          have C := least_lyn kk (m : Int) _ v2 w2 hO2.own (by omega) HLY.out
          have hlv : ∃ a c, v2 = .slice a (i + 1) c := own_form hown2
          obtain ⟨ya, yc, rfl⟩ := hlv
          clear hown2
          go_wp2_with (first
            | (go_at_call 40; refine C.mono ?_; rintro e w3 ⟨rfl, hb3⟩; clear C; have hO3 := own_keep hO2 (fun b _ hb => hb3.block b hb); have hB3 := hb2.trans (hb3.mono hb2.size))
            | go_in)
          go_ret2
          exact ⟨⟨_, by rw [HEE.out]; rfl, by rw [HZ.out]; exact hO3⟩, hB3⟩
      · have hdk : decide ((x : Int) + 1 < kk) = false := by simpa using hk
        have HI2 : Hid (nxI kk M m = nxI kk M i) := by show _ = _; rw [HI.out]; exact hsn (by omega)
        clear hss hsn
        go_wp2
        go_loopw [7] (fun xv ur => xv = .int .i64 ((x : Int) + 1) ∧ ur = wr) (fun _ _ => 0)
        case atStart => exact ⟨rfl, rfl⟩
        case round =>
          obtain ⟨rfl, e2⟩ := hrel
          subst e2
          go_wp2
          go_roundw
          case rel => exact ⟨i, rfl, by omega, HI2, trivial⟩
          case measure => simp [intOf]
    · obtain rfl : j = 0 := by omega
      have hdi : decide ((0 : Int) ≤ ((0 : Nat) : Int) - 1) = false := by simp
      have HIN : Hid (nxI kk M m = none) := HI.out
      have HZ : Hid (Z = []) := HZN.out HIN.out
      have HEE : Hid (E = 4) := by show _ = _; rw [HE.out, HIN.out]; rfl
      go_wp2
      go_ret2
      exact ⟨⟨_, by rw [HEE.out]; rfl, by rw [HZ.out]; exact World.ownsRow_nil _ _ _ _⟩, Below.refl _ _⟩
end Go.Proofs.Ytcjkcgfohmhbcaa
