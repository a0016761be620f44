/- The walk of arrayFact. -/
import Derived.Test.YtjfjdidibglhaabDoorAK
import Derived.Test.YtjfjdidibglhaabDoorA3
import Derived.Test.YtjfjdidibglhaabDoorArT
/- The walk of noneAbove. -/
/- The walk of what a run has in some columns. -/
namespace Go.Proofs.YtjfjdidibglhaabDoor
open Go.RowKit Go.Maps

/-- What a run has in some columns, and 0 elsewhere. -/
def enG (c : Nat) (l : List Int) (m i : Nat) : Int := if i < m ∧ c.testBit i = true then l.getD i 0 else 0
def enF (c : Nat) (l : List Int) : List Int := (List.range 8).map fun i => if c.testBit i = true then l.getD i 0 else 0
theorem enF_at (c : Nat) (l : List Int) {i : Nat} (hi : i < 8) : (enF c l).getD i 0 = if c.testBit i = true then l.getD i 0 else 0 := by
  unfold enF
  rw [List.getD_eq_getElem?_getD, List.getElem?_map, List.getElem?_range hi]
  rfl
theorem enF_row (c : Nat) (l : List Int) : eV (enF c l) = .agg (erow (enG c l l.length)) := by
  unfold eV
  congr 1
  refine erow_congr fun i hi => ?_
  rw [enF_at c l hi]
  unfold enG
  by_cases h : i < l.length
  · by_cases hb : c.testBit i = true
    · rw [if_pos hb, if_pos ⟨h, hb⟩]
    · rw [if_neg hb, if_neg fun k => hb k.2]
  · have e2 : (if i < l.length ∧ c.testBit i = true then l.getD i 0 else 0) = 0 := if_neg fun k => h k.1
    rw [e2, List.getD_eq_getElem?_getD, List.getElem?_eq_none (by omega)]
    split <;> rfl
theorem en_in (c : Nat) (l : List Int) {m i : Nat} (h : i < m) : enG c l m i = if c.testBit i = true then l.getD i 0 else 0 := by
  unfold enG
  by_cases hb : c.testBit i = true
  · rw [if_pos hb, if_pos ⟨h, hb⟩]
  · rw [if_neg hb, if_neg fun k => hb k.2]
theorem en_out (c : Nat) (l : List Int) {m i : Nat} (h : m ≤ i) : enG c l m i = 0 := if_neg fun k => by omega
theorem en_yes {c : Nat} (l : List Int) {j : Nat} (hj : c.testBit j = true) (i : Nat) : upd (enG c l j) j (l.getD j 0) i = enG c l (j + 1) i := by
  show (if i = j then l.getD j 0 else enG c l j i) = _
  by_cases e : i = j
  · subst e; rw [if_pos rfl, en_in c l (by omega), if_pos hj]
  · rw [if_neg e]
    rcases (show i < j ∨ j < i by omega) with k | k
    · rw [en_in c l k, en_in c l (by omega)]
    · rw [en_out c l (by omega), en_out c l (by omega)]
theorem en_no {c : Nat} (l : List Int) {j : Nat} (hj : c.testBit j = false) (i : Nat) : enG c l j i = enG c l (j + 1) i := by
  rcases (show i < j ∨ i = j ∨ j < i by omega) with k | k | k
  · rw [en_in c l k, en_in c l (by omega)]
  · subst k; rw [en_out c l (Nat.le_refl _), en_in c l (by omega), hj]; rfl
  · rw [en_out c l (by omega), en_out c l (by omega)]
theorem and64 {a b : Nat} (ha : a < 2 ^ 64) (hb : b < 2 ^ 64) : bits .and .u64 (a : Int) (b : Int) = ((a &&& b : Nat) : Int) := bits_and_u64_nat a b ha hb
theorem col_bit {x : Nat} (hx : x < 2 ^ 64) (b : Nat) : (bits .and .u64 ((x : Int) / 2 ^ b) 1 == 1) = x.testBit b := by
  have h1 : x / 2 ^ b < 2 ^ 64 := Nat.lt_of_le_of_lt (Nat.div_le_self _ _) hx
  have h0 : (x : Int) / 2 ^ b = ((x / 2 ^ b : Nat) : Int) := by simp
  rw [h0, show (1 : Int) = ((1 : Nat) : Int) from rfl, and64 h1 (by decide), Nat.and_one_is_mod]
  unfold Nat.testBit
  rw [Nat.one_and_eq_mod_two, Nat.shiftRight_eq_div_pow]
  have := Nat.mod_two_eq_zero_or_one (x / 2 ^ b)
  rcases this with e | e <;> rw [e] <;> rfl
theorem two_rows (w : World) : ERow 127 ((w.alloc (.cells #[.int .i64 0, .int .i64 0, .int .i64 0, .int .i64 0, .int .i64 0, .int .i64 0, .int .i64 0, .int .i64 0] 127)).alloc (.cells #[.int .i64 0, .int .i64 0, .int .i64 0, .int .i64 0, .int .i64 0, .int .i64 0, .int .i64 0, .int .i64 0] 127)) w.heap.size (fun _ => 0) ∧
    ERow 127 ((w.alloc (.cells #[.int .i64 0, .int .i64 0, .int .i64 0, .int .i64 0, .int .i64 0, .int .i64 0, .int .i64 0, .int .i64 0] 127)).alloc (.cells #[.int .i64 0, .int .i64 0, .int .i64 0, .int .i64 0, .int .i64 0, .int .i64 0, .int .i64 0, .int .i64 0] 127)) (w.heap.size + 1) (fun _ => 0) :=
  ⟨(ERow.made0 127 w).alloc _, by have := ERow.made0 127 (w.alloc (.cells #[.int .i64 0, .int .i64 0, .int .i64 0, .int .i64 0, .int .i64 0, .int .i64 0, .int .i64 0, .int .i64 0] 127)); simpa using this⟩
set_option maxRecDepth 100000 in
set_option maxHeartbeats 8000000 in
theorem of_any (c : Nat) (l : List Int) (v : Value) (w : World) (hc : c < 2 ^ 64) (hv : Sl w v l) (hl : l.length ≤ 8) :
    Calls Tryd.prog 86 #[.int .u64 (c : Int), v] w fun e w' => e = .returned (eV (enF c l)) ∧ Below w.heap.size w w' := by
  rw [enF_row c l]
  obtain ⟨h1, h2⟩ := two_rows w
  have hb0 : Below w.heap.size w ((w.alloc (.cells #[.int .i64 0, .int .i64 0, .int .i64 0, .int .i64 0, .int .i64 0, .int .i64 0, .int .i64 0, .int .i64 0] 127)).alloc (.cells #[.int .i64 0, .int .i64 0, .int .i64 0, .int .i64 0, .int .i64 0, .int .i64 0, .int .i64 0, .int .i64 0] 127)) := Below.next (balloc _ _) (balloc _ _)
  obtain ⟨m, Hm⟩ : ∃ m, Hid (l.length = m) := ⟨_, rfl⟩
  have HV : Hid (∀ W, Below w.heap.size w W → Sl W v l) := fun W b => hv.below b
  obtain ⟨a, cap, rfl, -⟩ := hv
  rw [Hm.out] at hl HV ⊢
  have HBIT : Hid (∀ j, (bits .and .u64 ((c : Int) / 2 ^ j) 1 == 1) = c.testBit j) := fun j => col_bit hc j
  obtain ⟨F, HF⟩ : ∃ F : Nat → Nat → Int, Hid (enG c l = F) := ⟨_, rfl⟩
  rw [HF.out]
  have H0 : Hid (∀ i, (0 : Int) = F 0 i) := fun i => by rw [← HF.out]; unfold enG; rw [if_neg (by omega)]
  have HY : Hid (∀ j, c.testBit j = true → ∀ i, upd (F j) j (l.getD j 0) i = F (j + 1) i) := fun j hj i => by rw [← HF.out]; exact en_yes l hj i
  have HNO : Hid (∀ j, c.testBit j = false → ∀ i, F j i = F (j + 1) i) := fun j hj i => by rw [← HF.out]; exact en_no l hj i
  clear hc
  go_enter Tryd.func86, Tryd.ntmps86
  go_wp2
  go_loopw [6, 7, 10] (fun _ _ iv wr => ∃ j : Nat, iv = .int .i64 (j : Int) ∧ j ≤ m ∧ ERow 127 wr (w.heap.size + 1) (F j) ∧ ERow 127 wr w.heap.size (fun _ => 0) ∧ Below w.heap.size w wr) (fun _ _ iv _ => (m - intOf iv).toNat)
  case atStart => exact ⟨0, rfl, by omega, h2.congr fun i _ => H0.out i, h1, hb0⟩
  case round =>
    clear h1 h2 hb0
    obtain ⟨j, rfl, hj, h2, h1, hB⟩ := hrel
    by_cases hlt : j < m
    · have hdj : decide ((j : Int) < (m : Int)) = true := by simp; omega
      have hjj : (j : Int) < (m : Int) := by omega
      obtain ⟨xb, xo, xc', exa, -, hcj0⟩ := (HV.out _ hB).form Hm.out (show 0 < m by omega)
      simp only [Value.slice.injEq, true_and] at exa
      obtain ⟨rfl, rfl⟩ := exa
      have hcj := hcj0 j hlt
      clear hcj0
      obtain ⟨y, Hy⟩ : ∃ y, Hid (l.getD j 0 = y) := ⟨_, rfl⟩
      rw [Hy.out] at hcj
      have hbit := HBIT.out j
      have hj8 : (j : Int) < 8 := by omega
      cases hq : c.testBit j with
      | true =>
        rw [hq] at hbit
        have hc2 := h2.cell j (by omega)
        have hfz := h2.frozen j
        have HF2 : Hid (∀ i, upd (F j) j y i = F (j + 1) i) := fun i => by rw [← Hy.out]; exact HY.out j hq i
        go_wp2
        go_roundw
        case rel => exact ⟨j + 1, by go_num, by omega, (h2.set j y).congr fun i _ => HF2.out i, h1.other _ _ (by simp), hB.setCell (by show w.heap.size ≤ w.heap.size + 1; omega) _⟩
        case measure => simp [intOf]; omega
      | false =>
        rw [hq] at hbit
        have HF2 : Hid (∀ i, F j i = F (j + 1) i) := fun i => HNO.out j hq i
        go_wp2
        go_roundw
        case rel => exact ⟨j + 1, by go_num, by omega, h2.congr fun i _ => HF2.out i, h1, hB⟩
        case measure => simp [intOf]; omega
    · have hdj : decide ((j : Int) < (m : Int)) = false := by simp; omega
      obtain rfl : j = m := by omega
      go_wp2_with (first
        | (refine wpList_load_row rfl 127 _ rfl (w.heap.size + 1) rfl 127 _ (0, 0) _ h2 und61 rfl (inf61 _) ?_)
        | (refine wpList_store_row rfl 127 _ _ rfl w.heap.size (erow (F j)) rfl rfl 127 _ h1 (inf61 _) (by simp) (erow_one _) ?_))
      exact post_erow 4 rfl rfl (h1.whole (F j)) rfl ⟨rfl, bsetRw hB (Nat.le_refl _) _⟩
end Go.Proofs.YtjfjdidibglhaabDoor

namespace Go.Proofs.YtjfjdidibglhaabDoor
open Go.RowKit Go.Maps Go.ChangeMaps Go.WideElems Go.MapKept

/-- A row of eight as cells. -/
def evL (x : List Int) : List Value := (List.range 8).map fun j => Value.int .i64 (x.getD j 0)
theorem evL_len (x : List Int) : (evL x).length = 8 := by simp [evL]
theorem eV_eq (x : List Int) : eV x = .agg (evL x).toArray := rfl
theorem inf61L (x : List Int) : (Tryd.prog.info? 127).map (·.size) = some (evL x).length := by rw [evL_len]; kernel_rfl
theorem grown_of_below {w w' : World} (h : Below w.heap.size w w') : w.grownBy w' none := ⟨h.os, h.tape, h.output, h.size, fun j hj _ => h.block j hj⟩
theorem ent_below {w w' : World} {B n : Nat} {D : DataW Unit} (h : w.ownsMap Tryd.prog 127 (plainElem Tryd.prog 3) B n D) (hb : Below w.heap.size w w') : w'.ownsMap Tryd.prog 127 (plainElem Tryd.prog 3) B n D := h.kept (grown_of_below hb) (by simp)
theorem range_blk {w w' : World} {b o : Nat} {cs : List Value} (h : w.rangeAt b o cs) (e : w'.heap[b]? = w.heap[b]?) : w'.rangeAt b o cs := fun j v hv => (World.cell?_of_block (w := w) (w' := w') (a := ⟨b, o + j, none⟩) e).trans (h j v hv)
/-- How often each has come. -/
def cntE (c : Nat) (ls : List (List Int)) (i : Nat) (x : List Int) : Int := (((ls.take i).map (enF c)).count x : Nat)
/-- Does none stand there more often? -/
def naB (c e : Nat) (ls : List (List Int)) : Bool := ls.all fun l => decide ((ls.map (enF c)).count (enF c l) ≤ e)
theorem cnt_same {c i : Nat} {ls : List (List Int)} {l : List Int} (h : ls[i]? = some l) : cntE c ls (i + 1) (enF c l) = cntE c ls i (enF c l) + 1 := by
  unfold cntE
  rw [List.take_add_one, h, List.map_append, List.count_append]
  simp
theorem cnt_other {c i : Nat} {ls : List (List Int)} {l : List Int} (h : ls[i]? = some l) {x : List Int} (hx : x ≠ enF c l) : cntE c ls (i + 1) x = cntE c ls i x := by
  unfold cntE
  rw [List.take_add_one, h, List.map_append, List.count_append]
  simp only [Option.toList_some, List.map_cons, List.map_nil]
  rw [List.count_cons_of_ne (Ne.symm hx)]
  simp
theorem cnt_le (c i : Nat) (ls : List (List Int)) (x : List Int) : cntE c ls i x ≤ ((ls.map (enF c)).count x : Nat) := by
  unfold cntE
  have : ls.map (enF c) = (ls.take i).map (enF c) ++ (ls.drop i).map (enF c) := by rw [← List.map_append, List.take_append_drop]
  rw [this, List.count_append]
  omega
theorem naB_yes {c e : Nat} {ls : List (List Int)} (h : ∀ x, cntE c ls ls.length x ≤ e) : naB c e ls = true := by
  unfold naB
  rw [List.all_eq_true]
  intro l _
  have := h (enF c l)
  unfold cntE at this
  rw [List.take_length] at this
  rw [decide_eq_true_eq]
  omega
theorem naB_no {c e i : Nat} {ls : List (List Int)} {l : List Int} (h : ls[i]? = some l) (hc : (e : Int) < cntE c ls (i + 1) (enF c l)) : naB c e ls = false := by
  unfold naB
  rw [List.all_eq_false]
  refine ⟨l, List.mem_of_getElem? h, ?_⟩
  have := cnt_le c (i + 1) ls (enF c l)
  rw [decide_eq_true_eq]
  omega
theorem enF_ok {c s k : Nat} {ls : List (List Int)} (h : GoodA s k ls) {l : List Int} (hl : l ∈ ls) : EOk (enF c l) := by
  refine ⟨by simp [enF], fun i hi => ?_⟩
  rw [enF_at c l hi]
  have h64 := h.s64
  split
  · by_cases hk : i < k
    · have := h.bel l hl i hk
      omega
    · rw [List.getD_eq_getElem?_getD, List.getElem?_eq_none (by rw [h.len l hl]; omega)]
      simp
  · omega
set_option maxRecDepth 100000 in
set_option maxHeartbeats 16000000 in
theorem noneAbove_any (c e s k : Nat) (ls : List (List Int)) (v : Value) (w : World) (hc : c < 2 ^ 64) (hv : Rw w v ls) (hG : GoodA s k ls) :
    Calls Tryd.prog 46 #[.int .u64 (c : Int), v, .int .i64 (e : Int)] w fun x w' => x = .returned (.bool (naB c e ls)) ∧ Below w.heap.size w w' := by
  have hmm := @run_makeMap Tryd.prog
  have hn128 := hG.n128
  have HG : Hid (GoodA s k ls) := hG
  obtain ⟨n, Hn⟩ : ∃ n, Hid (ls.length = n) := ⟨_, rfl⟩
  have HV : Hid (∀ W, Below w.heap.size w W → Rw W v ls) := fun W b => hv.below b
  obtain ⟨a, cap, rfl, -⟩ := hv
  rw [Hn.out] at hn128 HV ⊢
  have HOF : Hid (∀ (W : World) (u : Value) (l : List Int), l ∈ ls → Sl W u l → Calls Tryd.prog 86 #[.int .u64 (c : Int), u] W fun x w' => x = .returned (eV (enF c l)) ∧ Below W.heap.size W w') := fun W u l hl hu => of_any c l u W hc hu (by rw [hG.len l hl]; exact hG.k8)
  obtain ⟨z, Hz⟩ : ∃ z, Hid (naB c e ls = z) := ⟨_, rfl⟩
  rw [Hz.out]
  have HZ1 : Hid ((∀ x, cntE c ls n x ≤ e) → z = true) := fun h => by rw [← Hz.out]; exact naB_yes (by rw [Hn.out]; exact h)
  have HZ0 : Hid (∀ i l, ls[i]? = some l → (e : Int) < cntE c ls (i + 1) (enF c l) → z = false) := fun i l h1 h2 => by rw [← Hz.out]; exact naB_no h1 h2
  obtain ⟨T, HT⟩ : ∃ T, Hid (cntE c ls = T) := ⟨_, rfl⟩
  rw [HT.out] at HZ1 HZ0
  have HTS : Hid (∀ i l, ls[i]? = some l → T (i + 1) (enF c l) = T i (enF c l) + 1) := fun i l h => by rw [← HT.out]; exact cnt_same h
  have HTO : Hid (∀ i l, ls[i]? = some l → ∀ x, x ≠ enF c l → T (i + 1) x = T i x) := fun i l h x hx => by rw [← HT.out]; exact cnt_other h hx
  have HTL : Hid (∀ i x, i ≤ n → 0 ≤ T i x ∧ T i x ≤ n) := fun i x hi => by
    rw [← HT.out]
    unfold cntE
    have := List.count_le_length (a := x) (l := (ls.take i).map (enF c))
    rw [List.length_map, List.length_take] at this
    omega
  have HT0 : Hid (∀ x, T 0 x = 0) := fun x => by rw [← HT.out]; simp [cntE]
  have HAT : Hid (∀ i, i < n → ∃ b, ls[i]? = some b) := fun i hi => ⟨_, List.getElem?_eq_getElem (by rw [Hn.out]; exact hi)⟩
  clear hG hc
  go_enter Tryd.func46, Tryd.ntmps46
  go_wp2
  go_loopw [9, 10, 14] (fun _ _ iv wr => ∃ (i : Nat) (D : DataW Unit), iv = .int .i64 (i : Int) ∧ i ≤ n ∧ wr.ownsMap Tryd.prog 127 (plainElem Tryd.prog 3) w.heap.size i D ∧ Hid (EntIs D (T i)) ∧ Hid (∀ x, T i x ≤ e) ∧ Below w.heap.size w wr) (fun _ _ iv _ => (n - intOf iv).toNat)
  case atStart => exact ⟨0, .map [], rfl, by omega, World.ownsMap_made _ _ _ _, (show EntIs (.map []) (T 0) from fun x hx => by rw [EntIs.empty x hx, HT0.out x]), (show ∀ x, T 0 x ≤ e from fun x => by rw [HT0.out x]; omega), balloc _ _⟩
  case round =>
    obtain ⟨i, D, rfl, hi, hown, HD, HLE, hB⟩ := hrel
    by_cases hlt : i < n
    · have hdi : decide ((i : Int) < (n : Int)) = true := by simp; omega
      have hii : (i : Int) < (n : Int) := by omega
      obtain ⟨l, hli⟩ := HAT.out i hlt
      obtain ⟨b, off, u, rfl, hcu, hSu⟩ := (HV.out wr hB).at hli rfl
      have C := HOF.out wr u l (List.mem_of_getElem? hli) hSu
      have hok := enF_ok (c := c) HG.out (List.mem_of_getElem? hli)
      have HTS1 : Hid (T (i + 1) (enF c l) = T i (enF c l) + 1) := HTS.out i l hli
      have HTO1 : Hid (∀ x, x ≠ enF c l → T (i + 1) x = T i x) := HTO.out i l hli
      have HZ2 : Hid ((e : Int) < T (i + 1) (enF c l) → z = false) := HZ0.out i l hli
      obtain ⟨x, Hx⟩ : ∃ x, Hid (enF c l = x) := ⟨_, rfl⟩
      rw [Hx.out] at C hok HTS1 HTO1 HZ2
      obtain ⟨ua, uc, rfl, -⟩ := id hSu
      obtain ⟨ul, Hul⟩ : ∃ ul, Hid (l.length = ul) := ⟨_, rfl⟩
      rw [Hul.out] at C hcu
      have hkey := eK_of hok
      have HOK : Hid (EOk x) := hok
      have hinf := inf61L x
      rw [eV_eq] at C hkey
      obtain ⟨X, HX⟩ : ∃ X, Hid (evL x = X) := ⟨_, rfl⟩
      have hXs : X.length = 8 := by rw [← HX.out]; exact evL_len x
      have hXa : X.toArray = erow fun j => x.getD j 0 := by rw [← HX.out]; rfl
      have HX1 : Hid (X.toArray.all (·.oneCell') = true) := by show _ = _; rw [hXa]; exact erow_one _
      rw [HX.out] at C hkey hinf
      have hsz := hB.size
      have hoL := hown.lt
      have HKEY : Hid (keyOf Tryd.prog 127 (.agg X.toArray) = some (eK x)) := hkey
      have HZR : Hid (∀ W : World, ERow 127 (W.alloc (.cells #[.int .i64 0, .int .i64 0, .int .i64 0, .int .i64 0, .int .i64 0, .int .i64 0, .int .i64 0, .int .i64 0] 127)) W.heap.size (fun _ => 0)) := fun W => ERow.made0 127 W
      clear hSu hli hok hkey hXa
      go_wp2_with (first
        | (go_at_call 86; refine C.mono ?_; rintro e1 w2 ⟨rfl, b2⟩; clear C)
        | (refine wpList_store_row rfl 127 _ _ rfl w2.heap.size X.toArray rfl rfl 127 _ (HZR.out w2) (by rw [hinf]; simp) (by simp [hXs]) HX1.out ?_))
      have hz0 := HZR.out w2
      have hblk : ((w2.alloc (.cells #[.int .i64 0, .int .i64 0, .int .i64 0, .int .i64 0, .int .i64 0, .int .i64 0, .int .i64 0, .int .i64 0] 127)).setRow w2.heap.size X.toArray).heap[w2.heap.size]? = some (.cells X.toArray 127 (0, 0)) := setRow_heap _ _ _ _ _ _ hz0
      have b23 : Below w2.heap.size w2 ((w2.alloc (.cells #[.int .i64 0, .int .i64 0, .int .i64 0, .int .i64 0, .int .i64 0, .int .i64 0, .int .i64 0, .int .i64 0] 127)).setRow w2.heap.size X.toArray) := bsetRw (balloc _ _) (Nat.le_refl _) _
      have hs3 : ((w2.alloc (.cells #[.int .i64 0, .int .i64 0, .int .i64 0, .int .i64 0, .int .i64 0, .int .i64 0, .int .i64 0, .int .i64 0] 127)).setRow w2.heap.size X.toArray).heap.size = w2.heap.size + 1 := by simp
      obtain ⟨w3, Hw3⟩ : ∃ w3, Hid ((w2.alloc (.cells #[.int .i64 0, .int .i64 0, .int .i64 0, .int .i64 0, .int .i64 0, .int .i64 0, .int .i64 0, .int .i64 0] 127)).setRow w2.heap.size X.toArray = w3) := ⟨_, rfl⟩
      rw [Hw3.out] at hblk b23 hs3 ⊢
      simp only [Act.put]
      have hX3 : w3.rangeAt w2.heap.size 0 X := fun j z hz => by
        rw [Nat.zero_add, cell_of_row w3 _ j _ _ _ hblk]
        simpa using hz
      have hs2 := b2.size
      have hB3 : Below w.heap.size w w3 := Below.next (Below.next hB b2) b23
      have hown3 : w3.ownsMap Tryd.prog 127 (plainElem Tryd.prog 3) w.heap.size i D := ent_below (ent_below hown b2) b23
      have hDm := hown3.isMap
      obtain ⟨c1, v0, st, w4, hat, hlook, hent, hlook2, hg4, hs4, hst⟩ := entry_any hown3.drew (by unfold maxLen; omega) HKEY.out
      have hcx := HD.out.look HOK.out hat
      have hTl := HTL.out i x hi
      have hc0 : 0 ≤ c1 := by rw [hcx]; exact hTl.1
      have hc1 : c1 ≤ 128 := by rw [hcx]; have := hTl.2; omega
      have HCX : Hid (c1 = T i x) := hcx
      obtain ⟨w5, hsto, hown5, hg5, hs5⟩ := hst (c1 + 1) (WalkArith.wf_i64 (by omega))
      rw [show goInt (st : Int) = Value.int .i64 (st : Int) from rfl] at hsto hent
      have hne : w2.heap.size ≠ w.heap.size := by omega
      have e4 : w4.heap[w2.heap.size]? = w3.heap[w2.heap.size]? := hg4.block w2.heap.size (by show w2.heap.size < w3.heap.size; omega) (by simpa using hne)
      have e5 : w5.heap[w2.heap.size]? = w3.heap[w2.heap.size]? := hg5.block w2.heap.size (by show w2.heap.size < w3.heap.size; omega) (by simpa using hne)
      have hX4 : w4.rangeAt w2.heap.size 0 X := range_blk hX3 e4
      have hX5 : w5.rangeAt w2.heap.size 0 X := range_blk hX3 e5
      have hblk5 : w5.heap[w2.heap.size]? = some (.cells X.toArray 127 (0, 0)) := e5.trans hblk
      have hinf5 : (Tryd.prog.info? 127).map (·.size) = some X.toArray.size := by rw [hinf]; simp
      have hB5 : Below w.heap.size w w5 := hB3.drew.grown hg5 (by show w.heap.size ≤ w3.heap.size; omega) (fun j hj => by cases hj; exact Nat.le_refl _)
      have hlook5 : (Instr.lookup 125 (.map (some w.heap.size)) (.agg X.toArray) false).run Tryd.prog w5 = .ok (.int .i64 (c1 + 1)) w5 := by
        obtain ⟨c', hl', hat', _⟩ := hown5.lookup_int keyedE undE und3 (zero3' _) HKEY.out
        rw [atKey_put_same hDm (keyedE.key HKEY.out)] at hat'
        simp only [DataW.lit.injEq, Lit.int.injEq, true_and] at hat'
        rw [hl', ← hat']
      clear hat hcx hst hz0 hown hown3 hB3 hg4 hg5 b2 b23 e4 e5 hblk hTl
      refine wp_region_noPanic ?_
      refine wp_region_held_drew (S := fun w_ => w_.rangeAt w2.heap.size 0 X) (by kernel_rfl) (by exact hX3) (fun hSx => ?_)
      refine wpAnyH_take (i := 0) (v := .map (some w.heap.size)) rfl (by kernel_rfl) (by kernel_rfl) (by kernel_rfl) (fun _ _ _ h => h) (Or.inl ⟨by rfl, fun w_ hSw => by (try dsimp only at hSw); go_simp⟩) hSx ?_
      try simp only [Act.put, List.setIfInBounds_toArray]
      refine wpAnyH_take (i := 1) (v := .agg X.toArray) rfl (by kernel_rfl) (by kernel_rfl) (by kernel_rfl) (fun _ _ _ h => h) (yieldsIf_load_mid (by rfl) 127 _ rfl w2.heap.size 0 rfl X _ (fun _ h => h) und61 rfl hinf) hSx ?_
      try simp only [Act.put]
      refine wpAnyH_ready (rs := [2, 4]) (by kernel_rfl) (by simp) ?_
      refine AllReadyH.cons rfl (fun J hJ => ?_) (AllReadyH.cons rfl (fun J hJ => ?_) AllReadyH.nil)
      · go_simp
        refine hJ.out _ _ hSx (fun hSy => ?_)
        clear hJ J
        try simp only [Act.put, List.setIfInBounds_toArray, List.set_cons_zero, List.set_cons_succ]
        refine wpAnyH_take (i := 3) (v := .int .i64 (c1 + 1)) rfl (by kernel_rfl) (by kernel_rfl) (by kernel_rfl) (fun _ _ _ h => h) (Or.inl ⟨by rfl, fun w_ hSw => by (try dsimp only at hSw); go_simp; rw [IntKind.wrap_i64]; omega⟩) hSy ?_
        try simp only [Act.put, List.setIfInBounds_toArray]
        refine wpAnyH_ready (rs := [4]) (by kernel_rfl) (by simp) ?_
        refine AllReadyH.cons rfl (fun J hJ => ?_) AllReadyH.nil
        go_simp
        refine hJ.out _ _ hX4 (fun hSz => ?_)
        clear hJ J
        try simp only [Act.put, List.setIfInBounds_toArray, List.set_cons_zero, List.set_cons_succ]
        refine wpAnyH_take (i := 5) (v := .int .i64 (st : Int)) rfl (by kernel_rfl) (by kernel_rfl) (by kernel_rfl) (fun _ _ _ h => h) (Or.inl ⟨by rfl, fun w_ hSw => by (try dsimp only at hSw); go_simp⟩) hSz ?_
        try simp only [Act.put, List.setIfInBounds_toArray]
        refine wpAnyH_ready (rs := [6]) (by kernel_rfl) (by simp) ?_
        refine AllReadyH.cons rfl (fun J hJ => ?_) AllReadyH.nil
        go_simp
        refine hJ.out _ _ hX5 (fun _ => ?_)
        clear hJ J
        refine wpAnyH_done (by kernel_rfl) ?_ _
        refine NoPanic.normal ?_
        clear hlook hent hlook2 hsto
        by_cases hgt : (e : Int) < c1 + 1
        · have hdg : decide ((e : Int) < c1 + 1) = true := decide_eq_true hgt
          obtain rfl : z = false := HZ2.out (by rw [HTS1.out, ← HCX.out]; exact hgt)
          clear hgt
          go_wp2_with (refine wpList_load_row rfl 127 _ rfl w2.heap.size rfl 127 _ (0, 0) _ hblk5 und61 rfl hinf5 ?_)
          go_ret
          exact ⟨rfl, hB5⟩
        · have hdg : decide ((e : Int) < c1 + 1) = false := decide_eq_false hgt
          have HGT : Hid (¬ (e : Int) < c1 + 1) := hgt
          clear hgt
          go_wp2_with (refine wpList_load_row rfl 127 _ rfl w2.heap.size rfl 127 _ (0, 0) _ hblk5 und61 rfl hinf5 ?_)
          go_roundw
          case rel =>
            refine ⟨i + 1, _, by go_num, by omega, hown5, ?_, ?_, hB5⟩
            · show EntIs _ _
              exact HD.out.put hDm HOK.out (by rw [HTS1.out, ← HCX.out]) HTO1.out
            · show ∀ y, T (i + 1) y ≤ e
              intro y
              by_cases ey : y = x
              · subst ey; rw [HTS1.out, ← HCX.out]; have := HGT.out; omega
              · rw [HTO1.out y ey]; exact HLE.out y
          case measure => simp [intOf]; omega
      · go_simp
        refine hJ.out _ _ hX4 (fun hSy => ?_)
        clear hJ J
        try simp only [Act.put, List.setIfInBounds_toArray, List.set_cons_zero, List.set_cons_succ]
        refine wpAnyH_take (i := 5) (v := .int .i64 (st : Int)) rfl (by kernel_rfl) (by kernel_rfl) (by kernel_rfl) (fun _ _ _ h => h) (Or.inl ⟨by rfl, fun w_ hSw => by (try dsimp only at hSw); go_simp⟩) hSy ?_
        try simp only [Act.put, List.setIfInBounds_toArray]
        refine wpAnyH_ready (rs := [2]) (by kernel_rfl) (by simp) ?_
        refine AllReadyH.cons rfl (fun J hJ => ?_) AllReadyH.nil
        go_simp
        refine hJ.out _ _ hX4 (fun hSz => ?_)
        clear hJ J
        try simp only [Act.put, List.setIfInBounds_toArray, List.set_cons_zero, List.set_cons_succ]
        refine wpAnyH_take (i := 3) (v := .int .i64 (c1 + 1)) rfl (by kernel_rfl) (by kernel_rfl) (by kernel_rfl) (fun _ _ _ h => h) (Or.inl ⟨by rfl, fun w_ hSw => by (try dsimp only at hSw); go_simp; rw [IntKind.wrap_i64]; omega⟩) hSz ?_
        try simp only [Act.put, List.setIfInBounds_toArray]
        refine wpAnyH_ready (rs := [6]) (by kernel_rfl) (by simp) ?_
        refine AllReadyH.cons rfl (fun J hJ => ?_) AllReadyH.nil
        go_simp
        refine hJ.out _ _ hX5 (fun _ => ?_)
        clear hJ J
        refine wpAnyH_done (by kernel_rfl) ?_ _
        refine NoPanic.normal ?_
        clear hlook hent hlook2 hsto
        by_cases hgt : (e : Int) < c1 + 1
        · have hdg : decide ((e : Int) < c1 + 1) = true := decide_eq_true hgt
          obtain rfl : z = false := HZ2.out (by rw [HTS1.out, ← HCX.out]; exact hgt)
          clear hgt
          go_wp2_with (refine wpList_load_row rfl 127 _ rfl w2.heap.size rfl 127 _ (0, 0) _ hblk5 und61 rfl hinf5 ?_)
          go_ret
          exact ⟨rfl, hB5⟩
        · have hdg : decide ((e : Int) < c1 + 1) = false := decide_eq_false hgt
          have HGT : Hid (¬ (e : Int) < c1 + 1) := hgt
          clear hgt
          go_wp2_with (refine wpList_load_row rfl 127 _ rfl w2.heap.size rfl 127 _ (0, 0) _ hblk5 und61 rfl hinf5 ?_)
          go_roundw
          case rel =>
            refine ⟨i + 1, _, by go_num, by omega, hown5, ?_, ?_, hB5⟩
            · show EntIs _ _
              exact HD.out.put hDm HOK.out (by rw [HTS1.out, ← HCX.out]) HTO1.out
            · show ∀ y, T (i + 1) y ≤ e
              intro y
              by_cases ey : y = x
              · subst ey; rw [HTS1.out, ← HCX.out]; have := HGT.out; omega
              · rw [HTO1.out y ey]; exact HLE.out y
          case measure => simp [intOf]; omega
    · have hdi : decide ((i : Int) < (n : Int)) = false := by simp; omega
      obtain rfl : i = n := by omega
      obtain rfl : z = true := HZ1.out HLE.out
      go_wp2
      go_ret
      exact ⟨rfl, hB⟩
end Go.Proofs.YtjfjdidibglhaabDoor

/- The walks of triesAll and Strength. -/
namespace Go.Proofs.YtjfjdidibglhaabDoor
open Go.RowKit

theorem enF_eq {c k : Nat} {l m : List Int} (hk : k ≤ 8) (hl : l.length = k) (hm : m.length = k) (hc : c < 2 ^ k) : enF c l = enF c m ↔ ∀ i ∈ pts c, l.getD i 0 = m.getD i 0 := by
  have h64 : c < 2 ^ 64 := Nat.lt_of_lt_of_le hc (Nat.pow_le_pow_right (by decide) (by omega))
  constructor
  · intro h i hi
    have hb := (pts_mem' h64).1 hi
    have hik := (pts_pts hk hc).lt i hi
    have h1 := enF_at c l (i := i) (by omega)
    rw [h, enF_at c m (by omega), if_pos hb, if_pos hb] at h1
    exact h1.symm
  · intro h
    unfold enF
    refine List.map_congr_left fun i hi => ?_
    have hi := List.mem_range.1 hi
    by_cases hb : c.testBit i = true
    · rw [if_pos hb, if_pos hb, h i ((pts_mem' h64).2 hb)]
    · rw [if_neg hb, if_neg hb]
theorem naB_iff {s k c e : Nat} {ls : List (List Int)} (hG : GoodA s k ls) (hc : c < 2 ^ k) : naB c e ls = true ↔ ∀ l ∈ ls, hit (rnA ls) (pts c) (fnA l) ≤ e := by
  have key : ∀ l ∈ ls, (ls.map (enF c)).count (enF c l) = hit (rnA ls) (pts c) (fnA l) := fun l hl => by
    unfold hit rnA
    rw [List.count_eq_countP, List.countP_map, List.countP_map]
    refine List.countP_congr fun m hm => ?_
    show (enF c m == enF c l) = true ↔ mtc (pts c) (fnA l) (fnA m) = true
    rw [beq_iff_eq, enF_eq hG.k8 (hG.len m hm) (hG.len l hl) hc, mtc_iff]
    exact ⟨fun h i hi => (hG.eq hm hl ((pts_pts hG.k8 hc).lt i hi)).2 (h i hi), fun h i hi => (hG.eq hm hl ((pts_pts hG.k8 hc).lt i hi)).1 (h i hi)⟩
  unfold naB
  rw [List.all_eq_true]
  constructor
  · intro h l hl
    rw [← key l hl]
    exact of_decide_eq_true (h l hl)
  · intro h l hl
    rw [decide_eq_true_eq, key l hl]
    exact h l hl
/-- Does it try all alike in t columns? -/
def taB (s k t : Nat) (ls : List (List Int)) : Bool := trB k t fun c => naB c (ls.length / s ^ t) ls
theorem taB_iff {s k t : Nat} {ls : List (List Int)} (hG : GoodA s k ls) : taB s k t ls = true ↔ Str s k (rnA ls) t := tr_str hG fun _ hc => naB_iff hG hc
set_option maxRecDepth 100000 in
set_option maxHeartbeats 16000000 in
theorem triesAll_any (s k t : Nat) (ls : List (List Int)) (v : Value) (w : World) (hv : Rw w v ls) (hG : GoodA s k ls) (ht : t ≤ k) :
    Calls Tryd.prog 22 #[.int .i64 (s : Int), v, .int .i64 (t : Int)] w fun x w' => x = .returned (.bool (taB s k t ls)) ∧ Below w.heap.size w w' := by
  have hn1 := hG.n1
  have hn128 := hG.n128
  have hk8 := hG.k8
  have hs2 := hG.s2
  have HG : Hid (GoodA s k ls) := hG
  obtain ⟨n, Hn⟩ : ∃ n, Hid (ls.length = n) := ⟨_, rfl⟩
  have HV : Hid (∀ W, Below w.heap.size w W → Rw W v ls) := fun W b => hv.below b
  obtain ⟨r0, hr0⟩ : ∃ r0, ls[0]? = some r0 := ⟨_, List.getElem?_eq_getElem (by omega)⟩
  obtain ⟨a, cap, rfl, -⟩ := hv
  rw [Hn.out] at hn128 hn1 HV ⊢
  obtain ⟨b, off, u, rfl, hc0, hS0⟩ := (HV.out w (Below.refl _ _)).at hr0 rfl
  rw [Nat.add_zero] at hc0
  obtain ⟨ua, uc, rfl, -⟩ := id hS0
  rw [hG.len r0 (List.mem_of_getElem? hr0)] at hc0
  obtain ⟨pw, Hpw⟩ : ∃ pw, Hid (s ^ t = pw) := ⟨_, rfl⟩
  have CP := apow_small s t w (by omega) hG.s64 (by omega) pw Hpw
  have hpw : 0 < pw := by rw [← Hpw.out]; exact Nat.pow_pos (by omega)
  have hpi : (pw : Int) ≠ 0 := by omega
  obtain ⟨e, He⟩ : ∃ e, Hid (n / pw = e) := ⟨_, rfl⟩
  have hq : (n : Int).tdiv (pw : Int) = (e : Int) := by rw [← He.out]; rfl
  have hel : e ≤ n := by rw [← He.out]; exact Nat.div_le_self _ _
  obtain ⟨P, HP⟩ : ∃ P : Nat, Hid ((2 : Nat) ^ k = P) := ⟨_, rfl⟩
  have hP : (2 : Int) ^ k = (P : Int) := by rw [← HP.out]; simp
  have hP1 : 0 < P := by rw [← HP.out]; exact Nat.pow_pos (by decide)
  have hP8 : P ≤ 256 := by rw [← HP.out]; exact Nat.le_trans (Nat.pow_le_pow_right (by decide) hk8) (by decide)
  obtain ⟨z, Hz⟩ : ∃ z, Hid (taB s k t ls = z) := ⟨_, rfl⟩
  rw [Hz.out]
  have HZ1 : Hid ((∀ c, c < P → pc c = t → naB c e ls = true) → z = true) := fun h => by
    rw [← Hz.out]
    exact trB_yes fun c hc hp => by rw [Hn.out, Hpw.out, He.out]; exact h c (by rw [← HP.out]; exact hc) hp
  have HZ0 : Hid (∀ c, c < P → pc c = t → naB c e ls = false → z = false) := fun c hc hp h => by
    rw [← Hz.out]
    exact trB_no (by rw [HP.out]; exact hc) hp (by rw [Hn.out, Hpw.out, He.out]; exact h)
  have HO : Hid (∀ (c : Nat) (W : World), c < P → Calls Tryd.prog 45 #[.int .u64 (c : Int)] W fun x w' => x = .returned (.int .i64 (pc c : Int)) ∧ w' = W) := fun c W hc => OnesCount_any c (by omega) W
  have HA : Hid (∀ (c : Nat) (W : World), c < P → Below w.heap.size w W → Calls Tryd.prog 46 #[.int .u64 (c : Int), .slice (some ⟨b, off, none⟩) n cap, .int .i64 (e : Int)] W fun x w' => x = .returned (.bool (naB c e ls)) ∧ Below W.heap.size W w') := fun c W hc bW => noneAbove_any c e s k ls _ W (by omega) (HV.out W bW) HG.out
  have hni : (0 : Int) < (n : Int) := by omega
  clear hG hS0 hr0
  go_enter Tryd.func22, Tryd.ntmps22
  go_wp2_with (go_at_call 18; refine CP.mono ?_; rintro e1 w1 ⟨rfl, h1⟩; replace h1 := h1.symm; subst h1; clear CP)
  go_loopw [8, 20] (fun _ iv wr => ∃ c : Nat, iv = .int .u64 (c : Int) ∧ c ≤ P ∧ Hid (∀ d, d < c → pc d = t → naB d e ls = true) ∧ Below w.heap.size w wr) (fun _ iv _ => (P - intOf iv).toNat)
  case atStart => exact ⟨0, rfl, by omega, (show ∀ d, d < 0 → _ from fun d h => by omega), Below.refl _ _⟩
  case round =>
    clear hc0
    obtain ⟨c, rfl, hc, HC, hB⟩ := hrel
    by_cases hlt : c < P
    · have hdc : decide ((c : Int) < (P : Int)) = true := by simp; omega
      have hci : (c : Int) < (P : Int) := by omega
      have C1 := HO.out c wr hlt
      obtain ⟨p, Hp⟩ : ∃ p, Hid (pc c = p) := ⟨_, rfl⟩
      rw [Hp.out] at C1
      by_cases hpt : p = t
      · have hde : ((p : Int) == (t : Int)) = true := by rw [hpt]; simp
        have C2 := HA.out c wr hlt hB
        cases hna : naB c e ls with
        | true =>
          rw [hna] at C2
          have HC2 : Hid (∀ d, d < c + 1 → pc d = t → naB d e ls = true) := fun d hd hp => by
            by_cases q : d = c
            · subst q; exact hna
            · exact HC.out d (by omega) hp
          clear HC hna
          subst hpt
          go_wp2_with (first
            | (go_at_call 45; refine C1.mono ?_; rintro e1 w1 ⟨rfl, h1⟩; replace h1 := h1.symm; subst h1; clear C1)
            | (go_at_call 46; refine C2.mono ?_; rintro e1 w2 ⟨rfl, b2⟩; clear C2))
          go_roundw
          case rel => exact ⟨c + 1, by go_num, by omega, HC2, Below.next hB b2⟩
          case measure => simp [intOf]; omega
        | false =>
          rw [hna] at C2
          obtain rfl : z = false := HZ0.out c hlt (Hp.out.trans hpt) hna
          clear HC hna
          subst hpt
          go_wp2_with (first
            | (go_at_call 45; refine C1.mono ?_; rintro e1 w1 ⟨rfl, h1⟩; replace h1 := h1.symm; subst h1; clear C1)
            | (go_at_call 46; refine C2.mono ?_; rintro e1 w2 ⟨rfl, b2⟩; clear C2))
          go_ret
          exact ⟨rfl, Below.next hB b2⟩
      · have hde : ((p : Int) == (t : Int)) = false := by rw [beq_eq_false_iff_ne]; omega
        have hden : (p == t) = false := by rw [beq_eq_false_iff_ne]; omega
        have HC2 : Hid (∀ d, d < c + 1 → pc d = t → naB d e ls = true) := fun d hd hp => by
          by_cases q : d = c
          · subst q; exact absurd (Hp.out.symm.trans hp) hpt
          · exact HC.out d (by omega) hp
        clear HC
        go_wp2_with (go_at_call 45; refine C1.mono ?_; rintro e1 w1 ⟨rfl, h1⟩; replace h1 := h1.symm; subst h1; clear C1)
        go_roundw
        case rel => exact ⟨c + 1, by go_num, by omega, HC2, hB⟩
        case measure => simp [intOf]; omega
    · have hdc : decide ((c : Int) < (P : Int)) = false := by simp; omega
      obtain rfl : c = P := by omega
      obtain rfl : z = true := HZ1.out HC.out
      go_wp2
      go_ret
      exact ⟨rfl, hB⟩
end Go.Proofs.YtjfjdidibglhaabDoor

/- The walk of Strength. -/
namespace Go.Proofs.YtjfjdidibglhaabDoor
open Go.RowKit

set_option maxRecDepth 100000 in
set_option maxHeartbeats 4000000 in
theorem Strength_bad (s : Int) (ls : List (List Int)) (v : Value) (w : World) (hv : Rw w v ls) (hl : ls.length ≤ maxLen) (hll : ∀ l ∈ ls, l.length ≤ maxLen) (h0 : aF s ls ≠ 0) :
    Calls Tryd.prog 9 #[.int .i64 s, v] w fun e w' => e = .returned (.tuple #[.int .i64 0, .int .i64 (aF s ls : Int)]) ∧ Below w.heap.size w w' := by
  have C := ACheck_any s ls v w hv hl hll
  obtain ⟨z, Hz⟩ : ∃ z, Hid (aF s ls = z) := ⟨_, rfl⟩
  rw [Hz.out] at C h0 ⊢
  have hne : ((z : Int) != 0) = true := by simp; omega
  obtain ⟨n, Hn⟩ : ∃ n, Hid (ls.length = n) := ⟨_, rfl⟩
  obtain ⟨a, cap, rfl, -⟩ := hv
  rw [Hn.out] at C ⊢
  clear hl hll
  go_enter Tryd.func9, Tryd.ntmps9
  go_wp2_with (go_at_call 21; refine C.mono ?_; rintro e1 w1 ⟨rfl, h1⟩; replace h1 := h1.symm; subst h1; clear C)
  go_ret2
  exact ⟨rfl, Below.refl _ _⟩
/-- A strength, and no error. -/
def SgR (s k : Nat) (ls : List (List Int)) (e : Ending) : Prop := ∃ t : Nat, e = .returned (.tuple #[.int .i64 (t : Int), .int .i64 0]) ∧ StrIs s k (rnA ls) t
set_option maxRecDepth 100000 in
set_option maxHeartbeats 4000000 in
theorem Strength_ok (s k : Nat) (ls : List (List Int)) (v : Value) (w : World) (hv : Rw w v ls) (hG : GoodA s k ls) :
    Calls Tryd.prog 9 #[.int .i64 (s : Int), v] w fun e w' => SgR s k ls e ∧ Below w.heap.size w w' := by
  have hk8 := hG.k8
  have C := ACheck_any s ls v w hv (by have := hG.n128; unfold maxLen; omega) (fun l hl => by rw [hG.len l hl]; unfold maxLen; omega)
  rw [hG.aF] at C
  have hn1 := hG.n1
  have HT : Hid (∀ (W : World) (t : Nat), Below w.heap.size w W → t ≤ k → Calls Tryd.prog 22 #[.int .i64 (s : Int), v, .int .i64 (t : Int)] W fun x w' => x = .returned (.bool (taB s k t ls)) ∧ Below W.heap.size W w') := fun W t b ht => triesAll_any s k t ls v W (hv.below b) hG ht
  have HIF : Hid (∀ t, taB s k t ls = true ↔ Str s k (rnA ls) t) := fun t => taB_iff hG
  have HK0 : Hid (Str s k (rnA ls) 0) := str_zero s k _
  obtain ⟨n, Hn⟩ : ∃ n, Hid (ls.length = n) := ⟨_, rfl⟩
  obtain ⟨r0, hr0⟩ : ∃ r0, ls[0]? = some r0 := ⟨_, List.getElem?_eq_getElem (by omega)⟩
  obtain ⟨b, off, u, ea, hc0, hS0⟩ : ∃ b off u, (∃ cap, v = .slice (some ⟨b, off, none⟩) n cap) ∧ w.cell? ⟨b, off, none⟩ = some u ∧ Sl w u r0 := by
    obtain ⟨a, cap, rfl, hr⟩ := id hv
    obtain ⟨b, off, u, rfl, hc, hS⟩ := hr 0 r0 hr0
    exact ⟨b, off, u, ⟨cap, by rw [Hn.out]⟩, hc, hS⟩
  obtain ⟨cap, rfl⟩ := ea
  obtain ⟨ua, uc, rfl, -⟩ := hS0
  rw [hG.len r0 (List.mem_of_getElem? hr0)] at hc0
  have hbl := block_lt_of_cell hc0
  have HC0 : Hid (∀ W, Below w.heap.size w W → W.cell? ⟨b, off, none⟩ = some (.slice ua k uc)) := fun W bW => (bW.cell (p := ⟨b, off, none⟩) hbl).trans hc0
  have hni : (0 : Int) < (n : Int) := by rw [← Hn.out]; omega
  obtain ⟨S, HS⟩ : ∃ S : Nat → Prop, Hid (Str s k (rnA ls) = S) := ⟨_, rfl⟩
  rw [HS.out] at HIF HK0
  obtain ⟨T, HTT⟩ : ∃ T : Nat → Bool, Hid ((fun t => taB s k t ls) = T) := ⟨_, rfl⟩
  have HT2 : Hid (∀ (W : World) (t : Nat), Below w.heap.size w W → t ≤ k → Calls Tryd.prog 22 #[.int .i64 (s : Int), .slice (some ⟨b, off, none⟩) n cap, .int .i64 (t : Int)] W fun x w' => x = .returned (.bool (T t)) ∧ Below W.heap.size W w') := fun W t b ht => by rw [← HTT.out]; exact HT.out W t b ht
  have HIF2 : Hid (∀ t, T t = true ↔ S t) := fun t => by rw [← HTT.out]; exact HIF.out t
  clear hG hv hr0 hn1 HT HIF hc0
  go_enter Tryd.func9, Tryd.ntmps9
  go_wp2_with (go_at_call 21; refine C.mono ?_; rintro e1 w1 ⟨rfl, h1⟩; replace h1 := h1.symm; subst h1; clear C)
  go_loopw [7] (fun tv wr => ∃ t : Nat, tv = .int .i64 (t : Int) ∧ t ≤ k ∧ Hid (∀ q, q ≤ t → S q) ∧ Below w.heap.size w wr) (fun tv _ => (k - intOf tv).toNat)
  case atStart =>
    refine ⟨0, rfl, by omega, ?_, Below.refl _ _⟩
    show ∀ q, q ≤ 0 → S q
    intro q h
    have e : q = 0 := by omega
    rw [e]
    exact HK0.out
  case round =>
    obtain ⟨t, rfl, ht, HQ, hB⟩ := hrel
    have hc0 := HC0.out wr hB
    by_cases hlt : t < k
    · have hdt : decide ((t : Int) < (k : Int)) = true := by simp; omega
      have C1 := HT2.out wr (t + 1) hB (by omega)
      rw [show ((t + 1 : Nat) : Int) = (t : Int) + 1 from rfl] at C1
      cases hq : T (t + 1) with
      | true =>
        rw [hq] at C1
        have HQ2 : Hid (∀ q, q ≤ t + 1 → S q) := fun q h => by
          by_cases e : q = t + 1
          · subst e; exact (HIF2.out _).1 hq
          · exact HQ.out q (by omega)
        clear HQ hq
        go_wp2_with (go_at_call 22; refine C1.mono ?_; rintro e1 w2 ⟨rfl, b2⟩; clear C1)
        go_roundw
        case rel => exact ⟨t + 1, by go_num, by omega, HQ2, Below.next hB b2⟩
        case measure => simp [intOf]; omega
      | false =>
        rw [hq] at C1
        have HN : Hid (¬ S (t + 1)) := fun h => by
          have := (HIF2.out _).2 h
          rw [hq] at this
          cases this
        clear hq
        go_wp2_with (go_at_call 22; refine C1.mono ?_; rintro e1 w2 ⟨rfl, b2⟩; clear C1)
        go_ret2
        refine ⟨⟨t, rfl, ht, ?_, fun _ => ?_⟩, Below.next hB b2⟩
        · rw [HS.out]; exact HQ.out
        · rw [HS.out]; exact HN.out
    · have hdt : decide ((t : Int) < (k : Int)) = false := by simp; omega
      have hdn : decide (t < k) = false := by simp; omega
      obtain rfl : t = k := by omega
      go_wp2
      go_ret2
      refine ⟨⟨t, rfl, ht, ?_, fun h => by omega⟩, hB⟩
      rw [HS.out]; exact HQ.out
end Go.Proofs.YtjfjdidibglhaabDoor

namespace Go.Proofs.YtjfjdidibglhaabDoor
open Go.RowKit

theorem sl_made (w : World) (l : List Int) : Sl (w.alloc (.cells (l.map (Value.int .i64)).toArray 3)) (.slice (some ⟨w.heap.size, 0, none⟩) l.length l.length) l := by
  refine ⟨_, _, rfl, fun j hj => ⟨w.heap.size, 0, rfl, ?_⟩⟩
  rw [cell_of_row _ w.heap.size (0 + j) _ _ _ (heap_alloc_new w _), Nat.zero_add]
  simp [hj]
def facL : List (List Int) := [[0, 0, 0], [0, 1, 1], [1, 0, 1], [1, 1, 0]]
theorem fac_good : GoodA 2 3 facL := by
  refine ⟨by decide, by decide, by decide, by decide, by decide, by decide, by decide, ?_⟩
  have h : (facL.all fun l => (List.range 3).all fun j => decide (0 ≤ l.getD j 0 ∧ l.getD j 0 < 2)) = true := by decide
  intro l hl j hj
  exact of_decide_eq_true (List.all_eq_true.1 (List.all_eq_true.1 h l hl) j (List.mem_range.2 hj))
theorem fac_str : StrIs 2 3 (rnA facL) 2 := by
  have t1 : taB 2 3 1 facL = true := by decide +kernel
  have t2 : taB 2 3 2 facL = true := by decide +kernel
  have t3 : taB 2 3 3 facL = false := by decide +kernel
  refine ⟨by decide, fun u hu => ?_, fun _ h => ?_⟩
  · rcases (show u = 0 ∨ u = 1 ∨ u = 2 by omega) with rfl | rfl | rfl
    · exact str_zero _ _ _
    · exact (taB_iff fac_good).1 t1
    · exact (taB_iff fac_good).1 t2
  · have := (taB_iff fac_good).2 h
    rw [t3] at this
    cases this
/-- Four rows of three, and the row of them. -/
def facW (w : World) : World := ((((w.alloc (.cells #[.int .i64 0, .int .i64 0, .int .i64 0] 3)).alloc (.cells #[.int .i64 0, .int .i64 1, .int .i64 1] 3)).alloc (.cells #[.int .i64 1, .int .i64 0, .int .i64 1] 3)).alloc (.cells #[.int .i64 1, .int .i64 1, .int .i64 0] 3)).alloc
  (.cells #[.slice (some ⟨w.heap.size, 0, none⟩) 3 3, .slice (some ⟨w.heap.size + 1, 0, none⟩) 3 3, .slice (some ⟨w.heap.size + 1 + 1, 0, none⟩) 3 3, .slice (some ⟨w.heap.size + 1 + 1 + 1, 0, none⟩) 3 3] 22)
theorem fac_rw (w : World) : Rw (facW w) (.slice (some ⟨w.heap.size + 1 + 1 + 1 + 1, 0, none⟩) 4 4) facL ∧ Below w.heap.size w (facW w) := by
  obtain ⟨w1, h1⟩ : ∃ w1, w.alloc (.cells #[.int .i64 0, .int .i64 0, .int .i64 0] 3) = w1 := ⟨_, rfl⟩
  obtain ⟨w2, h2⟩ : ∃ w2, w1.alloc (.cells #[.int .i64 0, .int .i64 1, .int .i64 1] 3) = w2 := ⟨_, rfl⟩
  obtain ⟨w3, h3⟩ : ∃ w3, w2.alloc (.cells #[.int .i64 1, .int .i64 0, .int .i64 1] 3) = w3 := ⟨_, rfl⟩
  obtain ⟨w4, h4⟩ : ∃ w4, w3.alloc (.cells #[.int .i64 1, .int .i64 1, .int .i64 0] 3) = w4 := ⟨_, rfl⟩
  have s1 : w1.heap.size = w.heap.size + 1 := by rw [← h1]; simp
  have s2 : w2.heap.size = w.heap.size + 1 + 1 := by rw [← h2]; simp [s1]
  have s3 : w3.heap.size = w.heap.size + 1 + 1 + 1 := by rw [← h3]; simp [s2]
  have s4 : w4.heap.size = w.heap.size + 1 + 1 + 1 + 1 := by rw [← h4]; simp [s3]
  have b1 : Below w.heap.size w w1 := by rw [← h1]; exact balloc _ _
  have b2 : Below w1.heap.size w1 w2 := by rw [← h2]; exact balloc _ _
  have b3 : Below w2.heap.size w2 w3 := by rw [← h3]; exact balloc _ _
  have b4 : Below w3.heap.size w3 w4 := by rw [← h4]; exact balloc _ _
  have r1 : Sl w1 (.slice (some ⟨w.heap.size, 0, none⟩) 3 3) [0, 0, 0] := by rw [← h1]; exact sl_made w [0, 0, 0]
  have r2 : Sl w2 (.slice (some ⟨w.heap.size + 1, 0, none⟩) 3 3) [0, 1, 1] := by rw [← h2, ← s1]; exact sl_made w1 [0, 1, 1]
  have r3 : Sl w3 (.slice (some ⟨w.heap.size + 1 + 1, 0, none⟩) 3 3) [1, 0, 1] := by rw [← h3, ← s2]; exact sl_made w2 [1, 0, 1]
  have r4 : Sl w4 (.slice (some ⟨w.heap.size + 1 + 1 + 1, 0, none⟩) 3 3) [1, 1, 0] := by rw [← h4, ← s3]; exact sl_made w3 [1, 1, 0]
  have e : facW w = w4.alloc (.cells #[.slice (some ⟨w.heap.size, 0, none⟩) 3 3, .slice (some ⟨w.heap.size + 1, 0, none⟩) 3 3, .slice (some ⟨w.heap.size + 1 + 1, 0, none⟩) 3 3, .slice (some ⟨w.heap.size + 1 + 1 + 1, 0, none⟩) 3 3] 22) := by
    unfold facW
    rw [h1, h2, h3, h4]
  rw [e]
  have b5 := balloc w4 (.cells #[.slice (some ⟨w.heap.size, 0, none⟩) 3 3, .slice (some ⟨w.heap.size + 1, 0, none⟩) 3 3, .slice (some ⟨w.heap.size + 1 + 1, 0, none⟩) 3 3, .slice (some ⟨w.heap.size + 1 + 1 + 1, 0, none⟩) 3 3] 22)
  have hn := heap_alloc_new w4 (.cells #[.slice (some ⟨w.heap.size, 0, none⟩) 3 3, .slice (some ⟨w.heap.size + 1, 0, none⟩) 3 3, .slice (some ⟨w.heap.size + 1 + 1, 0, none⟩) 3 3, .slice (some ⟨w.heap.size + 1 + 1 + 1, 0, none⟩) 3 3] 22)
  refine ⟨⟨_, 4, rfl, fun i l hi => ⟨w.heap.size + 1 + 1 + 1 + 1, 0, ?_⟩⟩, Below.next b1 (Below.next b2 (Below.next b3 (Below.next b4 b5)))⟩
  · have hil : i < 4 := (List.getElem?_eq_some_iff.1 hi).1
    rw [s4] at hn
    rcases (show i = 0 ∨ i = 1 ∨ i = 2 ∨ i = 3 by omega) with rfl | rfl | rfl | rfl
    · obtain rfl : [0, 0, 0] = l := by simpa [facL] using hi
      exact ⟨_, rfl, by rw [cell_of_row _ _ _ _ _ _ hn]; rfl, r1.below (Below.next b2 (Below.next b3 (Below.next b4 b5)))⟩
    · obtain rfl : [0, 1, 1] = l := by simpa [facL] using hi
      exact ⟨_, rfl, by rw [cell_of_row _ _ _ _ _ _ hn]; rfl, r2.below (Below.next b3 (Below.next b4 b5))⟩
    · obtain rfl : [1, 0, 1] = l := by simpa [facL] using hi
      exact ⟨_, rfl, by rw [cell_of_row _ _ _ _ _ _ hn]; rfl, r3.below (Below.next b4 b5)⟩
    · obtain rfl : [1, 1, 0] = l := by simpa [facL] using hi
      exact ⟨_, rfl, by rw [cell_of_row _ _ _ _ _ _ hn]; rfl, r4.below b5⟩
set_option maxRecDepth 100000 in
set_option maxHeartbeats 4000000 in
theorem arrayFact_any (w : World) : Calls Tryd.prog 6 #[] w fun e w' => e = .returned (.bool true) ∧ Below w.heap.size w w' := by
  obtain ⟨hr, hb⟩ := fac_rw w
  have C := Strength_ok 2 3 facL _ (facW w) hr fac_good
  have HF : Hid (StrIs 2 3 (rnA facL) 2) := fac_str
  clear hr
  go_enter Tryd.func6, Tryd.ntmps6
  go_wp2_with (go_at_call 9; refine C.mono ?_; rintro e1 w1 ⟨⟨t, rfl, hT⟩, b1⟩; clear C; have ht : t = 2 := hT.one HF.out; subst ht)
  go_ret
  exact ⟨by simp, Below.next hb b1⟩
end Go.Proofs.YtjfjdidibglhaabDoor
