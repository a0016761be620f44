/- A row of truths of one's own; the document's ringOf, walked. -/
import Derived.Test.YtpeplnojmogkfaaQ1
import Derived.Test.YtpeplnojmogkfaaRdR
namespace Go.Proofs.Ytpeplnojmogkfaa
open Go.RowKit

theorem undB : Try.prog.underlying 52 = some (.slice 4) := by kernel_rfl
theorem info4 : ∃ i, Try.prog.info? 4 = some i ∧ i.zero = some (.bool false) ∧ i.size = 1 ∧ i.bytes = 1 := by
  have h1 : (Try.prog.info? 4).map (·.zero) = some (some (.bool false)) := by kernel_rfl
  have h2 : (Try.prog.info? 4).map (·.size) = some 1 := by kernel_rfl
  have h3 : (Try.prog.info? 4).map (·.bytes) = some 1 := by kernel_rfl
  cases h : Try.prog.info? 4 with
  | none => rw [h] at h1; cases h1
  | some i =>
    rw [h] at h1 h2 h3
    exact ⟨i, rfl, Option.some.inj h1, Option.some.inj h2, Option.some.inj h3⟩
/-- A row of truths of one's own, whole. -/
def OwnB (w : World) (g n : Nat) (f : Nat → Bool) : Prop := ∃ cur, w.heap[g]? = some (.cells cur 4 (0, 0)) ∧ cur.size = n ∧ ∀ j, j < n → cur[j]? = some (.bool (f j))
theorem OwnB.lt {w : World} {g n : Nat} {f : Nat → Bool} (h : OwnB w g n f) : g < w.heap.size := by obtain ⟨c, h, _⟩ := h; exact (Array.getElem?_eq_some_iff.1 h).1
theorem OwnB.keep {w w' : World} {g n : Nat} {f : Nat → Bool} (h : OwnB w g n f) (k : w'.heap[g]? = w.heap[g]?) : OwnB w' g n f := by
  obtain ⟨c, h, e⟩ := h
  exact ⟨c, k.trans h, e⟩
theorem OwnB.below {w w' : World} {g n : Nat} {f : Nat → Bool} (h : OwnB w g n f) (b : Below w.heap.size w w') : OwnB w' g n f := h.keep (b.block g h.lt)
theorem OwnB.cell {w : World} {g n : Nat} {f : Nat → Bool} (h : OwnB w g n f) {j : Nat} (hj : j < n) : w.cell? ⟨g, j, none⟩ = some (.bool (f j)) := by
  obtain ⟨c, h, _, e⟩ := h
  rw [cell_of_row w g j _ _ _ h, e j hj]
theorem OwnB.frozen {w : World} {g n : Nat} {f : Nat → Bool} (h : OwnB w g n f) (j : Nat) : w.frozen? ⟨g, j, none⟩ = false := by
  obtain ⟨c, h, _⟩ := h
  exact frozen_of_row w g j _ _ h
theorem OwnB.set {w : World} {g n : Nat} {f f' : Nat → Bool} (h : OwnB w g n f) (i : Nat) (v : Bool) (e : ∀ j, j < n → (if j = i then v else f j) = f' j) : OwnB (w.setCell ⟨g, i, none⟩ (.bool v)) g n f' := by
  obtain ⟨c, h, hs, hc⟩ := h
  refine ⟨_, heap_setCell_same w g i _ _ _ h, by simpa using hs, fun j hj => ?_⟩
  rw [Array.getElem?_setIfInBounds, ← e j hj]
  by_cases e1 : i = j
  · subst e1; rw [if_pos rfl, if_pos (by omega), if_pos rfl]
  · rw [if_neg e1, if_neg (fun h => e1 h.symm), hc j hj]
theorem own_newB (w : World) (n : Nat) : OwnB (w.alloc (.cells (madeCells #[.bool false] n) 4)) w.heap.size n (fun _ => false) := by
  refine ⟨_, heap_alloc_new w _, by rw [size_madeCells], fun j hj => ?_⟩
  have hs : j < (madeCells #[Value.bool false] n).size := by rw [size_madeCells]; exact hj
  rw [Array.getElem?_eq_getElem hs]
  simp [madeCells, Nat.mod_one]
theorem run_makeB (n : Nat) (hn : n ≤ 100000) (w : World) : (Instr.makeSlice 52 (.int .i64 (n : Int)) (.int .i64 (n : Int))).run Try.prog w = .ok (.slice (some ⟨w.heap.size, 0, none⟩) n n) (w.alloc (.cells (madeCells #[.bool false] n) 4)) := by
  obtain ⟨i4, hi, hz0, hz1, hz2⟩ := info4
  have h := run_make (P := Try.prog) w 52 4 i4 (.bool false) undB hi hz0 .i64 .i64 n n (by omega) (by omega) (by rw [hz2]; omega) (by omega)
  simpa [hz1, Value.cells] using h
def bitV : Value → Nat
  | .bool true => 1
  | _ => 0
theorem own_newB1 (w : World) (n : Nat) : OwnB (w.alloc (.cells ((madeCells #[.bool false] n).setIfInBounds 0 (.bool true)) 4)) w.heap.size n (upB (fun _ => false) 0) := by
  refine ⟨_, heap_alloc_new w _, by rw [Array.size_setIfInBounds, size_madeCells], fun j hj => ?_⟩
  have hs : j < (madeCells #[Value.bool false] n).size := by rw [size_madeCells]; exact hj
  rw [Array.getElem?_setIfInBounds]
  unfold upB
  by_cases e : 0 = j
  · subst e; rw [if_pos rfl, if_pos (by rw [size_madeCells]; omega), if_pos rfl]
  · rw [if_neg e, if_neg (fun h => e h.symm), Array.getElem?_eq_getElem hs]
    simp [madeCells, Nat.mod_one]
set_option maxRecDepth 100000 in
set_option maxHeartbeats 16000000 in
theorem ringOf_any (n : Nat) (k l : List Nat) (u v : Value) (w : World) (hu : Sl w u (k.map Int.ofNat)) (hv : Sl w v (l.map Int.ofNat)) (hk : Rnd n fun x => k.getD x 0) (hl : Rnd n fun x => l.getD x 0) (hkl : k.length = n) (hll : l.length = n) (h2 : 2 ≤ n) (h16 : n ≤ 16) :
    Calls Try.prog 30 #[u, v] w fun e w' => (∃ c : Nat, e = .returned (.int .i64 (c : Int)) ∧ c ≤ n ∧ (c = n ↔ Cn n k l)) ∧ Below w.heap.size w w' := by
  obtain ⟨b1, o1, c1, rfl, _, k1⟩ := hu.form (n := n) (by rw [List.length_map]; exact hkl) (by omega)
  obtain ⟨b2, o2, c2, rfl, _, k2⟩ := hv.form (n := n) (by rw [List.length_map]; exact hll) (by omega)
  have HK : Hid (∀ W, Below w.heap.size w W → ∀ x, x < n → k.getD x 0 < n ∧ W.cell? ⟨b1, o1 + x, none⟩ = some (.int .i64 ((k.getD x 0 : Nat) : Int))) := fun W b x hx => ⟨(hk x hx).1, by rw [← nat_at]; exact (b.cell (World.block_lt_of_cell? _ _ (k1 x hx))).trans (k1 x hx)⟩
  have HL : Hid (∀ W, Below w.heap.size w W → ∀ x, x < n → l.getD x 0 < n ∧ W.cell? ⟨b2, o2 + x, none⟩ = some (.int .i64 ((l.getD x 0 : Nat) : Int))) := fun W b x hx => ⟨(hl x hx).1, by rw [← nat_at]; exact (b.cell (World.block_lt_of_cell? _ _ (k2 x hx))).trans (k2 x hx)⟩
  have HM : Hid (∀ f c x, RgI n k l f c → x < n → f x = false → (f (k.getD x 0) = true ∨ f (l.getD x 0) = true) → RgI n k l (upB f x) (c + 1)) := fun f c x h hx hf hy => h.more hk hl hx hf hy
  have HD : Hid (∀ f c, RgI n k l f c → ClB n k l f n → (c = n ↔ Cn n k l)) := fun f c h hc => h.done hk hl hc
  have hmk := fun w => run_makeB n (by omega) w
  have hbo := own_newB1 w n
  have hb0 := balloc w (.cells ((madeCells #[.bool false] n).setIfInBounds 0 (.bool true)) 4)
  have HS : Hid (RgI n k l (upB (fun _ => false) 0) 1) := rgI_start (by omega)
  have c0 := (own_newB w n).cell (show 0 < n by omega)
  have z0 := (own_newB w n).frozen 0
  have hn0 : (0 : Int) < (n : Int) := by omega
  clear k1 k2 hk hl hkl hll hu hv
  go_enter Try.func30, Try.ntmps30
  go_wp2
  go_loopw [6, 7] (fun cv mv wr => ∃ (c : Nat) (b : Bool) (f : Nat → Bool), cv = .int .i64 (c : Int) ∧ mv = .bool b ∧ c ≤ n ∧ Hid (RgI n k l f c) ∧ Hid (b = false → ClB n k l f n) ∧ OwnB wr w.heap.size n f ∧ Below w.heap.size w wr) (fun cv mv _ => 2 * (n - intOf cv).toNat + bitV mv)
  case atStart => exact ⟨1, true, _, rfl, rfl, by omega, HS, (show true = false → _ from fun h => by cases h), hbo, hb0⟩
  case round =>
    clear hbo hb0 c0 z0 hmk HS
    obtain ⟨c, b, f, rfl, rfl, hcn, HR, HC, hbo, hB⟩ := hrel
    cases b with
    | false =>
      have HE := HD.out f c HR.out (HC.out rfl)
      have HE2 : Hid (c = n ↔ Cn n k l) := HE
      clear HE HR HC
      go_wp2
      go_ret
      exact ⟨⟨c, rfl, hcn, HE2.out⟩, hB⟩
    | true =>
      go_wp2
      go_loopw [6, 7, 8] (fun cv mv xv wr => ∃ (c' : Nat) (b : Bool) (f : Nat → Bool) (x : Nat), cv = .int .i64 (c' : Int) ∧ mv = .bool b ∧ xv = .int .i64 (x : Int) ∧ x ≤ n ∧ c ≤ c' ∧ c' ≤ n ∧ Hid (RgI n k l f c') ∧ Hid (b = false → c' = c ∧ ClB n k l f x) ∧ Hid (b = true → c < c') ∧ OwnB wr w.heap.size n f ∧ Below w.heap.size w wr) (fun _ _ xv _ => (n - intOf xv).toNat)
      case atStart => exact ⟨c, false, f, 0, rfl, rfl, rfl, by omega, by omega, hcn, HR, (show false = false → _ from fun _ => ⟨rfl, fun x h => by omega⟩), (show false = true → _ from fun h => by cases h), hbo, hB⟩
      case round =>
        clear hbo hB HR HC
        obtain ⟨c', b, f, x, rfl, rfl, rfl, hx, hcc, hc', HR, HC, HC1, hbo, hB⟩ := hrel
        by_cases hlx : x < n
        · have hdx : decide ((x : Int) < (n : Int)) = true := by simp; omega
          have hxi : (x : Int) < (n : Int) := by omega
          obtain ⟨hy, hyc⟩ := HK.out wr hB x hlx
          obtain ⟨hz, hzc⟩ := HL.out wr hB x hlx
          have hfx := hbo.cell hlx
          have hfy := hbo.cell hy
          have hfz := hbo.cell hz
          have hfr := hbo.frozen x
          obtain ⟨y, Hy⟩ : ∃ y, Hid (k.getD x 0 = y) := ⟨_, rfl⟩
          obtain ⟨z, Hz⟩ : ∃ z, Hid (l.getD x 0 = z) := ⟨_, rfl⟩
          rw [Hy.out] at hy hyc hfy
          rw [Hz.out] at hz hzc hfz
          have hyi : (y : Int) < (n : Int) := by omega
          have hzi : (z : Int) < (n : Int) := by omega
          obtain ⟨p, Hp⟩ : ∃ p, Hid (f x = p) := ⟨_, rfl⟩
          obtain ⟨q, Hq⟩ : ∃ q, Hid (f y = q) := ⟨_, rfl⟩
          obtain ⟨r, Hr⟩ : ∃ r, Hid (f z = r) := ⟨_, rfl⟩
          rw [Hp.out] at hfx
          rw [Hq.out] at hfy
          rw [Hr.out] at hfz
          have HSK : Hid ((p = true ∨ (q = false ∧ r = false)) → b = false → c' = c ∧ ClB n k l f (x + 1)) := fun h hb => by
            obtain ⟨h1, h2⟩ := HC.out hb
            refine ⟨h1, fun a ha han hfa => ?_⟩
            by_cases e : a = x
            · subst e
              rw [Hp.out] at hfa
              rcases h with h | h
              · rw [h] at hfa; cases hfa
              · rw [Hy.out, Hz.out, Hq.out, Hr.out]; exact h
            · exact h2 a (by omega) han hfa
          have HMK : Hid (p = false → (q = true ∨ r = true) → RgI n k l (upB f x) (c' + 1)) := fun h1 h2 => HM.out f c' x HR.out hlx (by rw [Hp.out]; exact h1) (by rw [Hy.out, Hz.out, Hq.out, Hr.out]; exact h2)
          have hset := hbo.set (f' := upB f x) x true fun j _ => rfl
          have hBset := hB.setCell (p := ⟨w.heap.size, x, none⟩) (Nat.le_refl _) (.bool true)
          clear HC
          cases p with
          | true =>
            have HSK2 : Hid (b = false → c' = c ∧ ClB n k l f (x + 1)) := fun h => HSK.out (.inl rfl) h
            clear HSK HMK hset hBset
            go_wp2
            go_roundw
            case rel => exact ⟨c', b, f, x + 1, rfl, rfl, by go_num, by omega, hcc, hc', HR, HSK2, HC1, hbo, hB⟩
            case measure => simp [intOf]; omega
          | false =>
            cases q with
            | true =>
              have HR2 : Hid (RgI n k l (upB f x) (c' + 1)) := HMK.out rfl (.inl rfl)
              have hle : c' + 1 ≤ n := by rw [← HR2.out.cnt]; exact cnB_le n _
              clear HSK HMK HR hbo hB
              go_wp2
              go_roundw
              case rel => exact ⟨c' + 1, true, upB f x, x + 1, by go_num, rfl, by go_num, by omega, by omega, hle, HR2, (show true = false → _ from fun h => by cases h), (show true = true → _ from fun _ => by omega), hset, hBset⟩
              case measure => simp [intOf]; omega
            | false =>
              cases r with
              | true =>
                have HR2 : Hid (RgI n k l (upB f x) (c' + 1)) := HMK.out rfl (.inr rfl)
                have hle : c' + 1 ≤ n := by rw [← HR2.out.cnt]; exact cnB_le n _
                clear HSK HMK HR hbo hB
                go_wp2
                go_roundw
                case rel => exact ⟨c' + 1, true, upB f x, x + 1, by go_num, rfl, by go_num, by omega, by omega, hle, HR2, (show true = false → _ from fun h => by cases h), (show true = true → _ from fun _ => by omega), hset, hBset⟩
                case measure => simp [intOf]; omega
              | false =>
                have HSK2 : Hid (b = false → c' = c ∧ ClB n k l f (x + 1)) := fun h => HSK.out (.inr ⟨rfl, rfl⟩) h
                clear HSK HMK hset hBset
                go_wp2
                go_roundw
                case rel => exact ⟨c', b, f, x + 1, rfl, rfl, by go_num, by omega, hcc, hc', HR, HSK2, HC1, hbo, hB⟩
                case measure => simp [intOf]; omega
        · have hdx : decide ((x : Int) < (n : Int)) = false := by simp; omega
          have hdxn : decide (x < n) = false := by simp; omega
          have HC2 : Hid (b = false → ClB n k l f n) := fun h a ha => (HC.out h).2 a (by omega)
          have HME : Hid (2 * (n - c') + bitV (.bool b) < 2 * (n - c) + 1) := by
            show _ < _
            cases b with
            | false => have := (HC.out rfl).1; simp [bitV]; omega
            | true => have := HC1.out rfl; simp [bitV]; omega
          clear HC HC1
          go_wp2
          go_roundw
          case rel => exact ⟨c', b, f, rfl, rfl, hc', HR, HC2, hbo, hB⟩
          case measure => have := HME.out; simp [intOf, bitV] at this ⊢; omega
end Go.Proofs.Ytpeplnojmogkfaa
