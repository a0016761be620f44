/- The walk of the document's alike. -/
import Derived.Test.YtjfjdidibglhaaaA2
import Derived.Test.YtjfjdidibglhaaaDGo
namespace Go.Proofs.Ytjfjdidibglhaaa
open Go.RowKit

/-- Are two runs the same in some columns? -/
def saB (cs : List Nat) (l m : List Int) : Bool := cs.all fun c => l.getD c 0 == m.getD c 0
theorem saB_step {cs : List Nat} {c : Nat} (l m : List Int) (hc : c < cs.length) : saB (cs.take (c + 1)) l m = (saB (cs.take c) l m && (l.getD (cs.getD c 0) 0 == m.getD (cs.getD c 0) 0)) := by
  unfold saB
  rw [List.take_add_one, List.getElem?_eq_getElem hc, List.all_append, List.getD_eq_getElem?_getD (l := cs), List.getElem?_eq_getElem hc]
  simp
/-- How many runs are the same as one in some columns. -/
def alN (cs : List Nat) (ls : List (List Int)) (l : List Int) : Nat := ls.countP (saB cs l)
theorem alN_take {cs : List Nat} {ls : List (List Int)} {l m : List Int} {j : Nat} (h : ls[j]? = some m) : alN cs (ls.take (j + 1)) l = alN cs (ls.take j) l + if saB cs l m = true then 1 else 0 := by
  unfold alN
  rw [List.take_add_one, h, List.countP_append]
  simp only [Option.toList_some, List.countP_cons, List.countP_nil, Nat.zero_add]
theorem alN_hit {s k : Nat} {cs : List Nat} {ls : List (List Int)} (hG : GoodA s k ls) (hc : ∀ c ∈ cs, c < k) {l : List Int} (hl : l ∈ ls) : alN cs ls l = hit (rnA ls) cs (fnA l) := by
  unfold alN hit rnA
  rw [List.countP_map]
  refine List.countP_congr fun m hm => ?_
  show saB cs l m = true ↔ mtc cs (fnA l) (fnA m) = true
  rw [mtc_iff]
  unfold saB
  rw [List.all_eq_true]
  exact ⟨fun h c hcm => ((hG.eq hl hm (hc c hcm)).2 (by simpa using h c hcm)).symm, fun h c hcm => by
    exact beq_iff_eq.2 ((hG.eq hm hl (hc c hcm)).1 (h c hcm)).symm⟩
set_option maxRecDepth 100000 in
set_option maxHeartbeats 16000000 in
theorem alike_any (s k i : Nat) (ls : List (List Int)) (l : List Int) (cs : List Nat) (v u : Value) (w : World) (hG : GoodA s k ls) (hv : Rw w v ls) (hu : Sl w u (cs.map Int.ofNat)) (hcl : cs.length ≤ 8) (hck : ∀ c ∈ cs, c < k) (hi : ls[i]? = some l) :
    Calls Try.prog 24 #[v, u, .int .i64 (i : Int)] w fun e w' => e = .returned (.int .i64 (alN cs ls l : Int)) ∧ Below w.heap.size w w' := by
  have hn128 := hG.n128
  have hk8 := hG.k8
  have HG : Hid (GoodA s k ls) := hG
  have HV : Hid (∀ W, Below w.heap.size w W → Rw W v ls) := fun W b => hv.below b
  have HU : Hid (∀ W, Below w.heap.size w W → Sl W u (cs.map Int.ofNat)) := fun W b => hu.below b
  obtain ⟨n, Hn⟩ : ∃ n, Hid (ls.length = n) := ⟨_, rfl⟩
  obtain ⟨t, Ht⟩ : ∃ t, Hid (cs.length = t) := ⟨_, rfl⟩
  have hin : i < n := by rw [← Hn.out]; exact (List.getElem?_eq_some_iff.1 hi).1
  obtain ⟨a, cap, rfl, -⟩ := hv
  obtain ⟨ca, ccap, rfl, -⟩ := hu
  have HCT : Hid ((cs.map Int.ofNat).length = t) := by show _ = _; rw [List.length_map]; exact Ht.out
  rw [Hn.out] at hn128 HV ⊢
  rw [HCT.out] at HU ⊢
  rw [Ht.out] at hcl
  have HLI : Hid (ls[i]? = some l) := hi
  have HCK : Hid (∀ c, c < t → cs.getD c 0 < k) := fun c hc => hck _ (by
    rw [List.getD_eq_getElem?_getD, List.getElem?_eq_getElem (by rw [Ht.out]; exact hc)]
    exact List.getElem_mem _)
  have HAT : Hid (∀ i, i < n → ∃ b, ls[i]? = some b) := fun i hi => ⟨_, List.getElem?_eq_getElem (by rw [Hn.out]; exact hi)⟩
  have HCG : Hid (∀ c, c < t → (cs.map Int.ofNat).getD c 0 = (cs.getD c 0 : Int)) := fun c hc => ofNat_at cs (by rw [Ht.out]; exact hc)
  have HZ : Hid (alN cs (ls.take n) l = alN cs ls l) := by show _ = _; rw [List.take_of_length_le (by rw [Hn.out]; exact Nat.le_refl _)]
  have HA0 : Hid (alN cs (ls.take 0) l = 0) := by show _ = _; simp [alN]
  obtain ⟨z, Hz⟩ : ∃ z, Hid (alN cs ls l = z) := ⟨_, rfl⟩
  rw [Hz.out] at HZ ⊢
  have hii : (i : Int) < (n : Int) := by omega
  clear hG hck hi
  go_enter Try.func24, Try.ntmps24
  go_wp2
  go_loopw [7, 8, 9, 10] (fun cv jv _ _ wr => ∃ x j : Nat, cv = .int .i64 (x : Int) ∧ jv = .int .i64 (j : Int) ∧ j ≤ n ∧ x ≤ j ∧ Hid (alN cs (ls.take j) l = x) ∧ Below w.heap.size w wr) (fun _ jv _ _ _ => (n - intOf jv).toNat)
  case atStart => exact ⟨0, 0, rfl, rfl, by omega, by omega, HA0, Below.refl _ _⟩
  case round =>
    obtain ⟨x, j, rfl, rfl, hj, hxj, HX, hB⟩ := hrel
    by_cases hlt : j < n
    · have hdj : decide ((j : Int) < (n : Int)) = true := by simp; omega
      have hji : (j : Int) < (n : Int) := by omega
      obtain ⟨m, hmj⟩ := HAT.out j hlt
      have HMJ : Hid (ls[j]? = some m) := hmj
      have HX2 : Hid (alN cs (ls.take (j + 1)) l = x + if saB cs l m = true then 1 else 0) := by show _ = _; rw [alN_take hmj, HX.out]
      obtain ⟨w1, Hw1⟩ : ∃ w1 : World, Hid (w1 = wr) := ⟨_, rfl⟩
      have HB1 : Hid (Below w.heap.size w w1) := by rw [Hw1.out]; exact hB
      clear hmj HX
      go_wp2
      go_loopw [9, 10] (fun sv dv wr' => ∃ (q : Bool) (d : Nat), sv = .bool q ∧ dv = .int .i64 (d : Int) ∧ d ≤ t ∧ Hid (saB (cs.take d) l m = q) ∧ Below w1.heap.size w1 wr') (fun _ dv _ => (t - intOf dv).toNat)
      case atStart => exact ⟨true, 0, rfl, rfl, by omega, (show saB (cs.take 0) l m = true from rfl), by rw [Hw1.out]; exact Below.refl _ _⟩
      case round =>
        clear hB
        obtain ⟨q, d, rfl, rfl, hd, HQ, hB2⟩ := hrel
        by_cases hld : d < t
        · have hdd : decide ((d : Int) < (t : Int)) = true := by simp; omega
          have hdi : (d : Int) < (t : Int) := by omega
          have hBB := Below.next HB1.out hB2
          obtain ⟨b, off, y, rfl, hci, hSi⟩ := (HV.out _ hBB).at HLI.out rfl
          obtain ⟨b', off', y', eb, hcj, hSj⟩ := (HV.out _ hBB).at HMJ.out rfl
          simp only [Option.some.injEq, Addr.mk.injEq, and_true] at eb
          obtain ⟨rfl, rfl⟩ := eb
          obtain ⟨cb, co, cc, ec, -, hcd0⟩ := (HU.out _ hBB).form HCT.out (show 0 < t by omega)
          simp only [Value.slice.injEq, true_and] at ec
          obtain ⟨rfl, rfl⟩ := ec
          have hcd := hcd0 d hld
          clear hcd0
          rw [HCG.out d hld] at hcd
          have hek := HCK.out d hld
          have HST : Hid (saB (cs.take (d + 1)) l m = (saB (cs.take d) l m && (l.getD (cs.getD d 0) 0 == m.getD (cs.getD d 0) 0))) := saB_step l m (by rw [Ht.out]; exact hld)
          obtain ⟨e, He⟩ : ∃ e, Hid (cs.getD d 0 = e) := ⟨_, rfl⟩
          rw [He.out] at hcd hek HST
          have hlk := HG.out.len l (List.mem_of_getElem? HLI.out)
          have hmk := HG.out.len m (List.mem_of_getElem? HMJ.out)
          obtain ⟨lb, lo, lc, rfl, -, hle0⟩ := hSi.form hlk (by omega)
          obtain ⟨mb, mo, mc, rfl, -, hme0⟩ := hSj.form hmk (by omega)
          have hle := hle0 e hek
          have hme := hme0 e hek
          clear hle0 hme0 hSi hSj
          obtain ⟨x1, Hx1⟩ : ∃ x1, Hid (l.getD e 0 = x1) := ⟨_, rfl⟩
          obtain ⟨x2, Hx2⟩ : ∃ x2, Hid (m.getD e 0 = x2) := ⟨_, rfl⟩
          rw [Hx1.out] at hle HST
          rw [Hx2.out] at hme HST
          rw [HQ.out] at HST
          have hei : (e : Int) < (k : Int) := by omega
          cases q with
          | true =>
            cases hq : (x1 == x2) with
            | true =>
              rw [hq] at HST
              clear HQ hlk hmk
              go_wp2
              go_quiet (fail)
              go_wp2
              go_roundw
              case rel => exact ⟨true, d + 1, by first | rfl | simp [hq], by go_num, by omega, HST, bdrewN hB2 _⟩
              case measure => simp [intOf]; omega
            | false =>
              rw [hq] at HST
              clear HQ hlk hmk
              go_wp2
              go_quiet (fail)
              go_wp2
              go_roundw
              case rel => exact ⟨false, d + 1, by first | rfl | simp [hq], by go_num, by omega, HST, bdrewN hB2 _⟩
              case measure => simp [intOf]; omega
          | false =>
            clear HQ hlk hmk
            go_wp2
            go_quiet (fail)
            go_wp2
            go_roundw
            case rel => exact ⟨false, d + 1, rfl, by go_num, by omega, HST, bdrewN hB2 _⟩
            case measure => simp [intOf]; omega
        · have hdd : decide ((d : Int) < (t : Int)) = false := by simp; omega
          obtain rfl : d = t := by omega
          have hQ := HQ.out
          rw [List.take_of_length_le (by rw [Ht.out]; exact Nat.le_refl _)] at hQ
          rw [hQ] at HX2
          clear HQ hQ
          cases q with
          | true =>
            go_wp2
            go_roundw
            case rel => exact ⟨x + 1, j + 1, by go_num, by go_num, by omega, by omega, HX2, Below.next HB1.out hB2⟩
            case measure => simp [intOf]; omega
          | false =>
            go_wp2
            go_roundw
            case rel => exact ⟨x, j + 1, rfl, by go_num, by omega, by omega, HX2, Below.next HB1.out hB2⟩
            case measure => simp [intOf]; omega
    · have hdj : decide ((j : Int) < (n : Int)) = false := by simp; omega
      obtain rfl : j = n := by omega
      obtain rfl : z = x := HZ.out.symm.trans HX.out
      go_wp2
      go_ret
      exact ⟨rfl, hB⟩
end Go.Proofs.Ytjfjdidibglhaaa
