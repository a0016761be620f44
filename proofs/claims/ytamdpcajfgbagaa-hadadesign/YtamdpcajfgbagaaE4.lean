/- The walk of open. -/
import Derived.Test.YtamdpcajfgbagaaE3
import Derived.OwnWalk
namespace Go.Proofs.Ytamdpcajfgbagaa
open Go.RowKit

theorem undS : Try.prog.underlying 53 = some (.slice 61) := by kernel_rfl
theorem infoS : ∃ i, Try.prog.info? 61 = some i ∧ i.zero = some (.int .u64 0) ∧ i.size = 1 ∧ i.bytes = 8 := by
  have h1 : (Try.prog.info? 61).map (·.zero) = some (some (.int .u64 0)) := by kernel_rfl
  have h2 : (Try.prog.info? 61).map (·.size) = some 1 := by kernel_rfl
  have h3 : (Try.prog.info? 61).map (·.bytes) = some 8 := by kernel_rfl
  cases h : Try.prog.info? 61 with
  | none => rw [h] at h1; cases h1
  | some i =>
    rw [h] at h1 h2 h3
    exact ⟨i, rfl, Option.some.inj h1, Option.some.inj h2, Option.some.inj h3⟩
theorem own_keepE {w w' : World} {base n : Nat} {e : TypeId} {v : Value} {xs : List Value} (h : w.ownsRow base e 1 v n xs) (k : ∀ b, base ≤ b → b < w.heap.size → w'.heap[b]? = w.heap[b]?) : w'.ownsRow base e 1 v n xs := by
  obtain ⟨h3, h4 | ⟨g, cap, cur, h5, h6, h7, h8⟩⟩ := h
  · exact ⟨h3, .inl h4⟩
  · exact ⟨h3, .inr ⟨g, cap, cur, h5, h6, (k g h6 (Array.getElem?_eq_some_iff.1 h7).1).trans h7, h8⟩⟩
theorem own_formE {w : World} {base n : Nat} {e : TypeId} {v : Value} {xs : List Value} (h : w.ownsRow base e 1 v n xs) : ∃ a c, v = .slice a n c := by
  obtain ⟨_, ⟨rfl, rfl⟩ | ⟨g, cap, cur, rfl, _⟩⟩ := h
  · exact ⟨_, _, rfl⟩
  · exact ⟨_, _, rfl⟩
theorem good_dF {v : Nat} {B : List (List Nat)} (G : GoodD v B) : dF (v : Int) (toZ B) = 0 := by
  have h1 := G.pos
  have h2 := G.le
  unfold dF
  rw [if_neg (by omega), if_neg (by have := G.few; simp [toZ]; omega)]
  refine blF_none fun m c hc => ?_
  obtain ⟨b, hb, rfl⟩ := List.mem_map.1 (List.mem_of_getElem? hc)
  have hr := rs_iff.1 (G.rs b hb)
  have key : ∀ j, j < b.length → (b.map Int.ofNat).getD j 0 = ((b.getD j 0 : Nat) : Int) := fun j hj => ofNat_at b hj
  refine bF_ok (fun j hj => ?_) (fun j hj1 hj => ?_)
  · rw [List.length_map] at hj
    rw [key j hj]
    have := (hr.2 _ (getD_in hj)).2
    omega
  · rw [List.length_map] at hj
    rw [key j hj, key (j - 1) (by omega)]
    have := List.pairwise_iff_getElem.1 hr.1 (j - 1) j (by omega) hj (by omega)
    rw [List.getD_eq_getElem?_getD, List.getD_eq_getElem?_getD, List.getElem?_eq_getElem hj, List.getElem?_eq_getElem (show j - 1 < b.length by omega)]
    simp only [Option.getD_some]
    omega
/-- The set of a list of numbers, as a value. -/
def sbV (b : List Int) : Value := .int .u64 ((sb (b.map Int.toNat) : Nat) : Int)
/-- A row of sets of one's own. -/
def SRow (w : World) (base : Nat) (v : Value) (S : List Nat) : Prop := w.ownsRow base 61 1 v S.length (S.map fun s => Value.int .u64 ((s : Nat) : Int))
theorem sbV_toZ (B : List (List Nat)) : (toZ B).map sbV = (B.map sb).map fun s => Value.int .u64 ((s : Nat) : Int) := by
  unfold toZ
  rw [List.map_map, List.map_map]
  refine List.map_congr_left fun b _ => ?_
  show sbV (b.map Int.ofNat) = _
  unfold sbV
  rw [List.map_map]
  have : Int.toNat ∘ Int.ofNat = id := by funext x; rfl
  rw [this, List.map_id]
  rfl

set_option maxHeartbeats 4000000 in
theorem open_far (p : Int) (v : Value) (w : World) (h : p < 1 ∨ 40 < p) :
    Calls Try.prog 26 #[.agg #[.int .i64 p, v]] w fun e w' => e = .returned (.tuple #[.slice none 0 0, .int .i64 1]) ∧ Below w.heap.size w w' := by
  obtain ⟨x0, x1⟩ := des_box p v w _ (Below.refl _ _)
  have hb := balloc w (.cells #[.int .i64 p, v] 33)
  by_cases h1 : p < 1
  · have hd : decide (p < 1) = true := decide_eq_true h1
    go_enter Try.func26, Try.ntmps26
    go_wp2
    exact bodyPost_ret (v := .tuple #[.slice none 0 0, .int .i64 1]) (by simp [results, Try.results26, go_sem]) rfl ⟨rfl, hb⟩
  · have hd : decide (p < 1) = false := decide_eq_false h1
    have hd2 : decide (40 < p) = true := decide_eq_true (by omega)
    go_enter Try.func26, Try.ntmps26
    go_wp2
    exact bodyPost_ret (v := .tuple #[.slice none 0 0, .int .i64 1]) (by simp [results, Try.results26, go_sem]) rfl ⟨rfl, hb⟩

set_option maxRecDepth 100000 in
set_option maxHeartbeats 8000000 in
theorem open_main (p : Int) (ls : List (List Int)) (v : Value) (w : World) (h1 : 1 ≤ p) (h40 : p ≤ 40) (hv : Rw w v ls) (_hl : ls.length ≤ maxLen) (hll : ∀ l ∈ ls, l.length ≤ maxLen) :
    Calls Try.prog 26 #[.agg #[.int .i64 p, v]] w fun e w' => (∃ x, e = .returned (.tuple #[x, .int .i64 (dF p ls : Int)]) ∧ (dF p ls ≠ 0 → x = .slice none 0 0) ∧ (dF p ls = 0 → w'.ownsRow (w.heap.size + 1) 61 1 x ls.length (ls.map sbV))) ∧ Below w.heap.size w w' := by
  have hd : decide (p < 1) = false := decide_eq_false (by omega)
  have hd2 : decide (40 < p) = false := decide_eq_false (by omega)
  have HC : Hid (∀ W, Below (w.alloc (.cells #[.int .i64 p, v] 33)).heap.size (w.alloc (.cells #[.int .i64 p, v] 33)) W → W.cell? ⟨w.heap.size, 0, none⟩ = some (.int .i64 p) ∧ W.cell? ⟨w.heap.size, 1, none⟩ = some v) := des_box p v w
  obtain ⟨w0, Hw0⟩ : ∃ w0, Hid (w0 = w.alloc (.cells #[.int .i64 p, v] 33)) := ⟨_, rfl⟩
  rw [← Hw0.out] at HC
  have HB0 : Hid (Below w.heap.size w w0) := by rw [Hw0.out]; exact balloc _ _
  have HW0 : Hid (w0.heap.size = w.heap.size + 1) := by show _ = _; rw [Hw0.out]; simp
  have HV : Hid (Rw w v ls) := hv
  have HLL : Hid (∀ l ∈ ls, l.length ≤ maxLen) := hll
  obtain ⟨a, cap, rfl, _⟩ := hv
  obtain ⟨x0, x1⟩ := HC.out _ (Below.refl _ _)
  rw [Hw0.out] at x0 x1
  by_cases hbig : 200 < ls.length
  · have hz : dF p ls = 3 := by unfold dF; rw [if_neg (by omega), if_pos hbig]
    rw [hz]
    have hdb : decide ((200 : Int) < (ls.length : Int)) = true := by simp; omega
    have hdn : decide (200 < ls.length) = true := decide_eq_true hbig
    unfold maxLen at _hl
    generalize hn : ls.length = n at *
    clear hll hz
    go_enter Try.func26, Try.ntmps26
    go_wp2
    exact bodyPost_ret (v := .tuple #[.slice none 0 0, .int .i64 3]) (by simp [results, Try.results26, go_sem]) rfl ⟨⟨_, rfl, fun _ => rfl, fun h => by cases h⟩, balloc w _⟩
  · have hz : dF p ls = blF p ls := by unfold dF; rw [if_neg (by omega), if_neg hbig]
    rw [hz]
    have HZ1 : Hid (∀ i b, ls[i]? = some b → (∀ m c, m < i → ls[m]? = some c → bF p c = 0) → bF p b ≠ 0 → blF p ls = bF p b) := fun i b => blF_at
    have HZ0 : Hid ((∀ (m : Nat) (c : List Int), ls[m]? = some c → bF p c = 0) → blF p ls = 0) := blF_none
    have HAT : Hid (∀ i, i < ls.length → ∃ b, ls[i]? = some b) := fun i hi => ⟨_, List.getElem?_eq_getElem hi⟩
    have HLE : Hid (∀ i b, ls[i]? = some b → i < ls.length) := fun i b h => (List.getElem?_eq_some_iff.1 h).1
    have HTK : Hid (∀ i b, ls[i]? = some b → (ls.take (i + 1)).map sbV = (ls.take i).map sbV ++ [sbV b]) := fun i b h => by
      rw [List.take_add_one, h]; simp
    have HALL : Hid ((ls.take ls.length).map sbV = ls.map sbV) := by show _ = _; rw [List.take_of_length_le (Nat.le_refl _)]
    have hdb : decide ((200 : Int) < (ls.length : Int)) = false := by simp; omega
    have hn2 : ls.length ≤ 200 := by omega
    generalize hzz : blF p ls = z at *
    generalize hn : ls.length = n at *
    clear hll hz hbig _hl hzz
    obtain ⟨i3, hi3, hz0, hz1, hz2⟩ := infoS
    have HP : Hid (1 ≤ p ∧ p ≤ 40) := ⟨h1, h40⟩
    go_enter Try.func26, Try.ntmps26
    go_wp2
    go_loopw [4, 23] (fun ov iv wr => ∃ i : Nat, iv = .int .i64 (i : Int) ∧ i ≤ n ∧ Hid (∀ m c, m < i → ls[m]? = some c → bF p c = 0) ∧ Below w0.heap.size w0 wr ∧ wr.ownsRow w0.heap.size 61 1 ov i ((ls.take i).map sbV)) (fun _ iv _ => (n - intOf iv).toNat)
    case atStart => exact ⟨0, rfl, by omega, (show ∀ m c, m < 0 → _ from fun m c h => by omega), by rw [Hw0.out]; exact Below.refl _ _, by rw [List.take_zero]; exact World.ownsRow_nil _ _ _ _⟩
    case round =>
      clear x0 x1
      obtain ⟨i, rfl, hi, HI, hB, hown⟩ := hrel
      obtain ⟨x0, x1⟩ := HC.out _ hB
      have hbz := hB.size
      by_cases hlt : i < n
      · have hdi : decide ((i : Int) < (n : Int)) = true := by simp; omega
        have hii : (i : Int) < (n : Int) := by omega
        obtain ⟨b, hbi⟩ := HAT.out i hlt
        have HBI : Hid (ls[i]? = some b) := hbi
        have hbl := HLL.out b (List.mem_of_getElem? hbi)
        obtain ⟨a', cap', e, hrows⟩ := HV.out.below (Below.next HB0.out hB)
        obtain ⟨bb, off, u, e2, hcell, hSu⟩ := hrows i b hbi
        obtain ⟨rfl, rfl⟩ : a = a' ∧ cap = cap' := by
          simp only [Value.slice.injEq] at e
          exact ⟨e.1, e.2.2⟩
        subst e2
        have C1 := checkBlock_any p b u wr hSu hbl
        obtain ⟨ua, uc, ue, _⟩ := id hSu
        have HSU : Hid (∀ W, Below wr.heap.size wr W → Sl W u b) := fun W bW => hSu.below bW
        obtain ⟨f, Hf⟩ : ∃ f, Hid (bF p b = f) := ⟨_, rfl⟩
        rw [Hf.out] at C1
        have HC2 : Hid (f = 0 → ∀ W, Below wr.heap.size wr W → ∃ s : Nat, sbV b = .int .u64 (s : Int) ∧ Calls Try.prog 34 #[u] W fun e w' => e = .returned (.int .u64 (s : Int)) ∧ w' = W) := fun h0 W bW => by
          obtain ⟨g1, g2⟩ := bF_zero (Hf.out.trans h0)
          obtain ⟨pv, rfl⟩ : ∃ pv : Nat, p = (pv : Int) := ⟨p.toNat, by have := HP.out; omega⟩
          obtain ⟨r1, r2⟩ := toNat_rs (lo := 0) (v := pv) (fun j hj => by have := g1 j hj; omega) g2
          have r3 := rs_iff.1 r1
          refine ⟨_, rfl, setOf_any (b.map Int.toNat) u W (by rw [r2]; exact HSU.out W bW) ?_ fun x hx => ?_⟩
          · have := (rise_pts r3.1 (fun x hx => (r3.2 x hx).2)).le
            have := HP.out
            omega
          · have := r3.2 x hx
            have := HP.out
            omega
        clear hSu hrows e hbi HSU
        by_cases hf : f = 0
        · have hfd : ((f : Int) != 0) = false := by simp [hf]
          have HI2 : Hid (∀ m c, m < i + 1 → ls[m]? = some c → bF p c = 0) := fun m c hm hc => by
            by_cases e : m = i
            · subst e
              rw [HBI.out] at hc
              obtain rfl := Option.some.inj hc
              rw [Hf.out]; exact hf
            · exact HI.out m c (by omega) hc
          have HTi := HTK.out i b HBI.out
          have HTI : Hid ((ls.take (i + 1)).map sbV = (ls.take i).map sbV ++ [sbV b]) := HTi
          clear HTi HI
          subst ue
          go_wp2_with (go_at_call 33; refine C1.mono ?_; rintro e w3 ⟨rfl, hb3⟩; clear C1)
          obtain ⟨s, hs, C2⟩ := HC2.out hf w3 hb3
          have hb3s := hb3.size
          have hown3 := own_keepE hown fun b _ hb => hb3.block b hb
          refine C2.mono ?_
          rintro e w4 ⟨rfl, hw⟩
          replace hw := hw.symm
          subst hw
          clear C2 x0 x1 hcell hown
          have hb03 : Below w0.heap.size w0 w3 := hB.trans (hb3.mono hbz)
          have hbz3 := hb03.size
          go_wp2_with (first
            | (at_builtin; refine wpList_append_own _ rfl _ _ 53 rfl w0.heap.size 61 i3 (.int .u64 0) 1 8 undS hi3 hz0 hz1 hz2 rfl (by decide) _ _ _ rfl (hown3.alloc _) ⟨w3.heap.size, 0, none⟩ 1 1 [.int .u64 (s : Int)] rfl rfl ?c1 ?c2 ?c3 ?c4 ?c5 ?_)
            | go_in)
          case c1 =>
            intro j u hj
            match j, hj with
            | 0, hj => simp at hj; subst hj; simp [Addr.add]
          case c2 => intro u hu; simp at hu; subst hu; rfl
          case c3 => unfold maxLen; omega
          case c4 => omega
          case c5 => simp; omega
          · intro v' w2 hown' hgrow _
            have hb2 : Below w0.heap.size w0 w2 := (hb03.alloc hbz3 _).grown hgrow (by simp; omega) (fun k hk => (hown3.lt k hk).1)
            go_wp2
            go_roundw
            case rel => exact ⟨i + 1, by go_num, by omega, HI2, hb2, by rw [HTI.out, hs, List.map_take]; exact hown'⟩
            case measure => simp [intOf]; omega
        · have hfd : ((f : Int) != 0) = true := by simp; omega
          have hzf := HZ1.out i b HBI.out HI.out (by rw [Hf.out]; exact hf)
          rw [Hf.out] at hzf
          subst hzf
          clear HI HC2
          subst ue
          go_wp2_with (go_at_call 33; refine C1.mono ?_; rintro e w3 ⟨rfl, hb3⟩; clear C1)
          refine bodyPost_ret (v := .tuple #[.slice none 0 0, .int .i64 (z : Int)]) (by simp [results, Try.results26, go_sem]) rfl ⟨⟨_, rfl, fun _ => rfl, fun h => (hf h).elim⟩, HB0.out.trans ?_⟩
          exact ((hB.trans (hb3.mono hbz)).mono HB0.out.size)
      · have hdi : decide ((i : Int) < (n : Int)) = false := by simp; omega
        obtain rfl : i = n := by omega
        have hzf := HZ0.out fun m c h => HI.out m c (HLE.out m c h) h
        subst hzf
        obtain ⟨ra, rc, er⟩ : ∃ a c, _ = Value.slice a i c := own_formE hown
        subst er
        rw [HALL.out, HW0.out] at hown
        clear HI hlt
        go_wp2
        exact bodyPost_ret (v := .tuple #[.slice ra i rc, .int .i64 0]) (by simp [results, Try.results26, go_sem]) rfl ⟨⟨_, rfl, hown⟩, HB0.out.trans (hB.mono HB0.out.size)⟩

theorem open_any (p : Int) (ls : List (List Int)) (v : Value) (w : World) (hv : Rw w v ls) (hl : ls.length ≤ maxLen) (hll : ∀ l ∈ ls, l.length ≤ maxLen) :
    Calls Try.prog 26 #[.agg #[.int .i64 p, v]] w fun e w' => (∃ x, e = .returned (.tuple #[x, .int .i64 (dF p ls : Int)]) ∧ (dF p ls ≠ 0 → x = .slice none 0 0) ∧ (dF p ls = 0 → w'.ownsRow (w.heap.size + 1) 61 1 x ls.length (ls.map sbV))) ∧ Below w.heap.size w w' := by
  by_cases h : p < 1 ∨ 40 < p
  · have hz : dF p ls = 1 := by unfold dF; rw [if_pos h]
    rw [hz]
    refine (open_far p v w h).mono ?_
    rintro e w' ⟨rfl, hb⟩
    exact ⟨⟨_, rfl, fun _ => rfl, fun h => by cases h⟩, hb⟩
  · exact open_main p ls v w (by omega) (by omega) hv hl hll
/-- A design that passes, opened. -/
theorem open_good (v : Nat) (B : List (List Nat)) (u : Value) (w : World) (G : GoodD v B) (hu : Rw w u (toZ B)) :
    Calls Try.prog 26 #[.agg #[.int .i64 (v : Int), u]] w fun e w' => (∃ x, e = .returned (.tuple #[x, .int .i64 0]) ∧ SRow w' (w.heap.size + 1) x (B.map sb)) ∧ Below w.heap.size w w' := by
  have hz : dF (v : Int) (toZ B) = 0 := good_dF G
  have hlen : (toZ B).length = B.length := by simp [toZ]
  refine (open_any (v : Int) (toZ B) u w hu ?_ ?_).mono ?_
  · rw [hlen]; have := G.few; unfold maxLen; omega
  · intro l hl
    obtain ⟨b, hb, rfl⟩ := List.mem_map.1 hl
    rw [List.length_map]
    have := G.len hb
    unfold maxLen; omega
  · rintro e w' ⟨⟨x, rfl, _, h2⟩, hb⟩
    rw [hz]
    refine ⟨⟨x, rfl, ?_⟩, hb⟩
    have := h2 hz
    unfold SRow
    rw [← sbV_toZ, List.length_map, ← hlen]
    exact this

end Go.Proofs.Ytamdpcajfgbagaa
