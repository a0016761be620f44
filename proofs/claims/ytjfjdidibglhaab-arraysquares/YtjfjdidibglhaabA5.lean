/- The walk of noneAbove. -/
import Derived.Test.YtjfjdidibglhaabA4
namespace Go.Proofs.Ytjfjdidibglhaab
open Go.RowKit Go.Maps Go.ChangeMaps Go.WideElems Go.MapKept

/-- A row of eight as cells. -/
def evL (x : List Int) : List Value := (List.range 8).map fun j => Value.int .i64 (x.getD j 0)
theorem evL_len (x : List Int) : (evL x).length = 8 := by simp [evL]
theorem eV_eq (x : List Int) : eV x = .agg (evL x).toArray := rfl
theorem inf61L (x : List Int) : (Try.prog.info? 60).map (·.size) = some (evL x).length := by rw [evL_len]; kernel_rfl
theorem grown_of_below {w w' : World} (h : Below w.heap.size w w') : w.grownBy w' none := ⟨h.os, h.tape, h.output, h.size, fun j hj _ => h.block j hj⟩
theorem ent_below {w w' : World} {B n : Nat} {D : DataW Unit} (h : w.ownsMap Try.prog 60 (plainElem Try.prog 3) B n D) (hb : Below w.heap.size w w') : w'.ownsMap Try.prog 60 (plainElem Try.prog 3) B n D := h.kept (grown_of_below hb) (by simp)
theorem range_blk {w w' : World} {b o : Nat} {cs : List Value} (h : w.rangeAt b o cs) (e : w'.heap[b]? = w.heap[b]?) : w'.rangeAt b o cs := fun j v hv => (World.cell?_of_block (w := w) (w' := w') (a := ⟨b, o + j, none⟩) e).trans (h j v hv)
/-- How often each has come. -/
def cntE (c : Nat) (ls : List (List Int)) (i : Nat) (x : List Int) : Int := (((ls.take i).map (enF c)).count x : Nat)
/-- Does none stand there more often? -/
def naB (c e : Nat) (ls : List (List Int)) : Bool := ls.all fun l => decide ((ls.map (enF c)).count (enF c l) ≤ e)
theorem cnt_same {c i : Nat} {ls : List (List Int)} {l : List Int} (h : ls[i]? = some l) : cntE c ls (i + 1) (enF c l) = cntE c ls i (enF c l) + 1 := by
  unfold cntE
  rw [List.take_add_one, h, List.map_append, List.count_append]
  simp
theorem cnt_other {c i : Nat} {ls : List (List Int)} {l : List Int} (h : ls[i]? = some l) {x : List Int} (hx : x ≠ enF c l) : cntE c ls (i + 1) x = cntE c ls i x := by
  unfold cntE
  rw [List.take_add_one, h, List.map_append, List.count_append]
  simp only [Option.toList_some, List.map_cons, List.map_nil]
  rw [List.count_cons_of_ne (Ne.symm hx)]
  simp
theorem cnt_le (c i : Nat) (ls : List (List Int)) (x : List Int) : cntE c ls i x ≤ ((ls.map (enF c)).count x : Nat) := by
  unfold cntE
  have : ls.map (enF c) = (ls.take i).map (enF c) ++ (ls.drop i).map (enF c) := by rw [← List.map_append, List.take_append_drop]
  rw [this, List.count_append]
  omega
theorem naB_yes {c e : Nat} {ls : List (List Int)} (h : ∀ x, cntE c ls ls.length x ≤ e) : naB c e ls = true := by
  unfold naB
  rw [List.all_eq_true]
  intro l _
  have := h (enF c l)
  unfold cntE at this
  rw [List.take_length] at this
  rw [decide_eq_true_eq]
  omega
theorem naB_no {c e i : Nat} {ls : List (List Int)} {l : List Int} (h : ls[i]? = some l) (hc : (e : Int) < cntE c ls (i + 1) (enF c l)) : naB c e ls = false := by
  unfold naB
  rw [List.all_eq_false]
  refine ⟨l, List.mem_of_getElem? h, ?_⟩
  have := cnt_le c (i + 1) ls (enF c l)
  rw [decide_eq_true_eq]
  omega
theorem enF_ok {c s k : Nat} {ls : List (List Int)} (h : GoodA s k ls) {l : List Int} (hl : l ∈ ls) : EOk (enF c l) := by
  refine ⟨by simp [enF], fun i hi => ?_⟩
  rw [enF_at c l hi]
  have h64 := h.s64
  split
  · by_cases hk : i < k
    · have := h.bel l hl i hk
      omega
    · rw [List.getD_eq_getElem?_getD, List.getElem?_eq_none (by rw [h.len l hl]; omega)]
      simp
  · omega
set_option maxRecDepth 100000 in
set_option maxHeartbeats 16000000 in
theorem noneAbove_any (c e s k : Nat) (ls : List (List Int)) (v : Value) (w : World) (hc : c < 2 ^ 64) (hv : Rw w v ls) (hG : GoodA s k ls) :
    Calls Try.prog 23 #[.int .u64 (c : Int), v, .int .i64 (e : Int)] w fun x w' => x = .returned (.bool (naB c e ls)) ∧ Below w.heap.size w w' := by
  have hmm := @run_makeMap Try.prog
  have hn128 := hG.n128
  have HG : Hid (GoodA s k ls) := hG
  obtain ⟨n, Hn⟩ : ∃ n, Hid (ls.length = n) := ⟨_, rfl⟩
  have HV : Hid (∀ W, Below w.heap.size w W → Rw W v ls) := fun W b => hv.below b
  obtain ⟨a, cap, rfl, -⟩ := hv
  rw [Hn.out] at hn128 HV ⊢
  have HOF : Hid (∀ (W : World) (u : Value) (l : List Int), l ∈ ls → Sl W u l → Calls Try.prog 28 #[.int .u64 (c : Int), u] W fun x w' => x = .returned (eV (enF c l)) ∧ Below W.heap.size W w') := fun W u l hl hu => of_any c l u W hc hu (by rw [hG.len l hl]; exact hG.k8)
  obtain ⟨z, Hz⟩ : ∃ z, Hid (naB c e ls = z) := ⟨_, rfl⟩
  rw [Hz.out]
  have HZ1 : Hid ((∀ x, cntE c ls n x ≤ e) → z = true) := fun h => by rw [← Hz.out]; exact naB_yes (by rw [Hn.out]; exact h)
  have HZ0 : Hid (∀ i l, ls[i]? = some l → (e : Int) < cntE c ls (i + 1) (enF c l) → z = false) := fun i l h1 h2 => by rw [← Hz.out]; exact naB_no h1 h2
  obtain ⟨T, HT⟩ : ∃ T, Hid (cntE c ls = T) := ⟨_, rfl⟩
  rw [HT.out] at HZ1 HZ0
  have HTS : Hid (∀ i l, ls[i]? = some l → T (i + 1) (enF c l) = T i (enF c l) + 1) := fun i l h => by rw [← HT.out]; exact cnt_same h
  have HTO : Hid (∀ i l, ls[i]? = some l → ∀ x, x ≠ enF c l → T (i + 1) x = T i x) := fun i l h x hx => by rw [← HT.out]; exact cnt_other h hx
  have HTL : Hid (∀ i x, i ≤ n → 0 ≤ T i x ∧ T i x ≤ n) := fun i x hi => by
    rw [← HT.out]
    unfold cntE
    have := List.count_le_length (a := x) (l := (ls.take i).map (enF c))
    rw [List.length_map, List.length_take] at this
    omega
  have HT0 : Hid (∀ x, T 0 x = 0) := fun x => by rw [← HT.out]; simp [cntE]
  have HAT : Hid (∀ i, i < n → ∃ b, ls[i]? = some b) := fun i hi => ⟨_, List.getElem?_eq_getElem (by rw [Hn.out]; exact hi)⟩
  clear hG hc
  go_enter Try.func23, Try.ntmps23
  go_wp2
  go_loopw [9, 10, 14] (fun _ _ iv wr => ∃ (i : Nat) (D : DataW Unit), iv = .int .i64 (i : Int) ∧ i ≤ n ∧ wr.ownsMap Try.prog 60 (plainElem Try.prog 3) w.heap.size i D ∧ Hid (EntIs D (T i)) ∧ Hid (∀ x, T i x ≤ e) ∧ Below w.heap.size w wr) (fun _ _ iv _ => (n - intOf iv).toNat)
  case atStart => exact ⟨0, .map [], rfl, by omega, World.ownsMap_made _ _ _ _, (show EntIs (.map []) (T 0) from fun x hx => by rw [EntIs.empty x hx, HT0.out x]), (show ∀ x, T 0 x ≤ e from fun x => by rw [HT0.out x]; omega), balloc _ _⟩
  case round =>
    obtain ⟨i, D, rfl, hi, hown, HD, HLE, hB⟩ := hrel
    by_cases hlt : i < n
    · have hdi : decide ((i : Int) < (n : Int)) = true := by simp; omega
      have hii : (i : Int) < (n : Int) := by omega
      obtain ⟨l, hli⟩ := HAT.out i hlt
      obtain ⟨b, off, u, rfl, hcu, hSu⟩ := (HV.out wr hB).at hli rfl
      have C := HOF.out wr u l (List.mem_of_getElem? hli) hSu
      have hok := enF_ok (c := c) HG.out (List.mem_of_getElem? hli)
      have HTS1 : Hid (T (i + 1) (enF c l) = T i (enF c l) + 1) := HTS.out i l hli
      have HTO1 : Hid (∀ x, x ≠ enF c l → T (i + 1) x = T i x) := HTO.out i l hli
      have HZ2 : Hid ((e : Int) < T (i + 1) (enF c l) → z = false) := HZ0.out i l hli
      obtain ⟨x, Hx⟩ : ∃ x, Hid (enF c l = x) := ⟨_, rfl⟩
      rw [Hx.out] at C hok HTS1 HTO1 HZ2
      obtain ⟨ua, uc, rfl, -⟩ := id hSu
      obtain ⟨ul, Hul⟩ : ∃ ul, Hid (l.length = ul) := ⟨_, rfl⟩
      rw [Hul.out] at C hcu
      have hkey := eK_of hok
      have HOK : Hid (EOk x) := hok
      have hinf := inf61L x
      rw [eV_eq] at C hkey
      obtain ⟨X, HX⟩ : ∃ X, Hid (evL x = X) := ⟨_, rfl⟩
      have hXs : X.length = 8 := by rw [← HX.out]; exact evL_len x
      have hXa : X.toArray = erow fun j => x.getD j 0 := by rw [← HX.out]; rfl
      have HX1 : Hid (X.toArray.all (·.oneCell') = true) := by show _ = _; rw [hXa]; exact erow_one _
      rw [HX.out] at C hkey hinf
      have hsz := hB.size
      have hoL := hown.lt
      have HKEY : Hid (keyOf Try.prog 60 (.agg X.toArray) = some (eK x)) := hkey
      have HZR : Hid (∀ W : World, ERow 60 (W.alloc (.cells #[.int .i64 0, .int .i64 0, .int .i64 0, .int .i64 0, .int .i64 0, .int .i64 0, .int .i64 0, .int .i64 0] 60)) W.heap.size (fun _ => 0)) := fun W => ERow.made0 60 W
      clear hSu hli hok hkey hXa
      go_wp2_with (first
        | (go_at_call 28; refine C.mono ?_; rintro e1 w2 ⟨rfl, b2⟩; clear C)
        | (refine wpList_store_row rfl 60 _ _ rfl w2.heap.size X.toArray rfl rfl 60 _ (HZR.out w2) (by rw [hinf]; simp) (by simp [hXs]) HX1.out ?_))
      have hz0 := HZR.out w2
      have hblk : ((w2.alloc (.cells #[.int .i64 0, .int .i64 0, .int .i64 0, .int .i64 0, .int .i64 0, .int .i64 0, .int .i64 0, .int .i64 0] 60)).setRow w2.heap.size X.toArray).heap[w2.heap.size]? = some (.cells X.toArray 60 (0, 0)) := setRow_heap _ _ _ _ _ _ hz0
      have b23 : Below w2.heap.size w2 ((w2.alloc (.cells #[.int .i64 0, .int .i64 0, .int .i64 0, .int .i64 0, .int .i64 0, .int .i64 0, .int .i64 0, .int .i64 0] 60)).setRow w2.heap.size X.toArray) := bsetRw (balloc _ _) (Nat.le_refl _) _
      have hs3 : ((w2.alloc (.cells #[.int .i64 0, .int .i64 0, .int .i64 0, .int .i64 0, .int .i64 0, .int .i64 0, .int .i64 0, .int .i64 0] 60)).setRow w2.heap.size X.toArray).heap.size = w2.heap.size + 1 := by simp
      obtain ⟨w3, Hw3⟩ : ∃ w3, Hid ((w2.alloc (.cells #[.int .i64 0, .int .i64 0, .int .i64 0, .int .i64 0, .int .i64 0, .int .i64 0, .int .i64 0, .int .i64 0] 60)).setRow w2.heap.size X.toArray = w3) := ⟨_, rfl⟩
      rw [Hw3.out] at hblk b23 hs3 ⊢
      simp only [Act.put]
      have hX3 : w3.rangeAt w2.heap.size 0 X := fun j z hz => by
        rw [Nat.zero_add, cell_of_row w3 _ j _ _ _ hblk]
        simpa using hz
      have hs2 := b2.size
      have hB3 : Below w.heap.size w w3 := Below.next (Below.next hB b2) b23
      have hown3 : w3.ownsMap Try.prog 60 (plainElem Try.prog 3) w.heap.size i D := ent_below (ent_below hown b2) b23
      have hDm := hown3.isMap
      obtain ⟨c1, v0, st, w4, hat, hlook, hent, hlook2, hg4, hs4, hst⟩ := entry_any hown3.drew (by unfold maxLen; omega) HKEY.out
      have hcx := HD.out.look HOK.out hat
      have hTl := HTL.out i x hi
      have hc0 : 0 ≤ c1 := by rw [hcx]; exact hTl.1
      have hc1 : c1 ≤ 128 := by rw [hcx]; have := hTl.2; omega
      have HCX : Hid (c1 = T i x) := hcx
      obtain ⟨w5, hsto, hown5, hg5, hs5⟩ := hst (c1 + 1) (WalkArith.wf_i64 (by omega))
      rw [show goInt (st : Int) = Value.int .i64 (st : Int) from rfl] at hsto hent
      have hne : w2.heap.size ≠ w.heap.size := by omega
      have e4 : w4.heap[w2.heap.size]? = w3.heap[w2.heap.size]? := hg4.block w2.heap.size (by show w2.heap.size < w3.heap.size; omega) (by simpa using hne)
      have e5 : w5.heap[w2.heap.size]? = w3.heap[w2.heap.size]? := hg5.block w2.heap.size (by show w2.heap.size < w3.heap.size; omega) (by simpa using hne)
      have hX4 : w4.rangeAt w2.heap.size 0 X := range_blk hX3 e4
      have hX5 : w5.rangeAt w2.heap.size 0 X := range_blk hX3 e5
      have hblk5 : w5.heap[w2.heap.size]? = some (.cells X.toArray 60 (0, 0)) := e5.trans hblk
      have hinf5 : (Try.prog.info? 60).map (·.size) = some X.toArray.size := by rw [hinf]; simp
      have hB5 : Below w.heap.size w w5 := hB3.drew.grown hg5 (by show w.heap.size ≤ w3.heap.size; omega) (fun j hj => by cases hj; exact Nat.le_refl _)
      have hlook5 : (Instr.lookup 58 (.map (some w.heap.size)) (.agg X.toArray) false).run Try.prog w5 = .ok (.int .i64 (c1 + 1)) w5 := by
        obtain ⟨c', hl', hat', _⟩ := hown5.lookup_int keyedE undE und3 (zero3' _) HKEY.out
        rw [atKey_put_same hDm (keyedE.key HKEY.out)] at hat'
        simp only [DataW.lit.injEq, Lit.int.injEq, true_and] at hat'
        rw [hl', ← hat']
      clear hat hcx hst hz0 hown hown3 hB3 hg4 hg5 b2 b23 e4 e5 hblk hTl
      refine wp_region_noPanic ?_
      refine wp_region_held_drew (S := fun w_ => w_.rangeAt w2.heap.size 0 X) (by kernel_rfl) (by exact hX3) (fun hSx => ?_)
      refine wpAnyH_take (i := 0) (v := .map (some w.heap.size)) rfl (by kernel_rfl) (by kernel_rfl) (by kernel_rfl) (fun _ _ _ h => h) (Or.inl ⟨by rfl, fun w_ hSw => by (try dsimp only at hSw); go_simp⟩) hSx ?_
      try simp only [Act.put, List.setIfInBounds_toArray]
      refine wpAnyH_take (i := 1) (v := .agg X.toArray) rfl (by kernel_rfl) (by kernel_rfl) (by kernel_rfl) (fun _ _ _ h => h) (yieldsIf_load_mid (by rfl) 60 _ rfl w2.heap.size 0 rfl X _ (fun _ h => h) und61 rfl hinf) hSx ?_
      try simp only [Act.put]
      refine wpAnyH_ready (rs := [2, 4]) (by kernel_rfl) (by simp) ?_
      refine AllReadyH.cons rfl (fun J hJ => ?_) (AllReadyH.cons rfl (fun J hJ => ?_) AllReadyH.nil)
      · go_simp
        refine hJ.out _ _ hSx (fun hSy => ?_)
        clear hJ J
        try simp only [Act.put, List.setIfInBounds_toArray, List.set_cons_zero, List.set_cons_succ]
        refine wpAnyH_take (i := 3) (v := .int .i64 (c1 + 1)) rfl (by kernel_rfl) (by kernel_rfl) (by kernel_rfl) (fun _ _ _ h => h) (Or.inl ⟨by rfl, fun w_ hSw => by (try dsimp only at hSw); go_simp; rw [IntKind.wrap_i64]; omega⟩) hSy ?_
        try simp only [Act.put, List.setIfInBounds_toArray]
        refine wpAnyH_ready (rs := [4]) (by kernel_rfl) (by simp) ?_
        refine AllReadyH.cons rfl (fun J hJ => ?_) AllReadyH.nil
        go_simp
        refine hJ.out _ _ hX4 (fun hSz => ?_)
        clear hJ J
        try simp only [Act.put, List.setIfInBounds_toArray, List.set_cons_zero, List.set_cons_succ]
        refine wpAnyH_take (i := 5) (v := .int .i64 (st : Int)) rfl (by kernel_rfl) (by kernel_rfl) (by kernel_rfl) (fun _ _ _ h => h) (Or.inl ⟨by rfl, fun w_ hSw => by (try dsimp only at hSw); go_simp⟩) hSz ?_
        try simp only [Act.put, List.setIfInBounds_toArray]
        refine wpAnyH_ready (rs := [6]) (by kernel_rfl) (by simp) ?_
        refine AllReadyH.cons rfl (fun J hJ => ?_) AllReadyH.nil
        go_simp
        refine hJ.out _ _ hX5 (fun _ => ?_)
        clear hJ J
        refine wpAnyH_done (by kernel_rfl) ?_ _
        refine NoPanic.normal ?_
        clear hlook hent hlook2 hsto
        by_cases hgt : (e : Int) < c1 + 1
        · have hdg : decide ((e : Int) < c1 + 1) = true := decide_eq_true hgt
          obtain rfl : z = false := HZ2.out (by rw [HTS1.out, ← HCX.out]; exact hgt)
          clear hgt
          go_wp2_with (refine wpList_load_row rfl 60 _ rfl w2.heap.size rfl 60 _ (0, 0) _ hblk5 und61 rfl hinf5 ?_)
          go_ret
          exact ⟨rfl, hB5⟩
        · have hdg : decide ((e : Int) < c1 + 1) = false := decide_eq_false hgt
          have HGT : Hid (¬ (e : Int) < c1 + 1) := hgt
          clear hgt
          go_wp2_with (refine wpList_load_row rfl 60 _ rfl w2.heap.size rfl 60 _ (0, 0) _ hblk5 und61 rfl hinf5 ?_)
          go_roundw
          case rel =>
            refine ⟨i + 1, _, by go_num, by omega, hown5, ?_, ?_, hB5⟩
            · show EntIs _ _
              exact HD.out.put hDm HOK.out (by rw [HTS1.out, ← HCX.out]) HTO1.out
            · show ∀ y, T (i + 1) y ≤ e
              intro y
              by_cases ey : y = x
              · subst ey; rw [HTS1.out, ← HCX.out]; have := HGT.out; omega
              · rw [HTO1.out y ey]; exact HLE.out y
          case measure => simp [intOf]; omega
      · go_simp
        refine hJ.out _ _ hX4 (fun hSy => ?_)
        clear hJ J
        try simp only [Act.put, List.setIfInBounds_toArray, List.set_cons_zero, List.set_cons_succ]
        refine wpAnyH_take (i := 5) (v := .int .i64 (st : Int)) rfl (by kernel_rfl) (by kernel_rfl) (by kernel_rfl) (fun _ _ _ h => h) (Or.inl ⟨by rfl, fun w_ hSw => by (try dsimp only at hSw); go_simp⟩) hSy ?_
        try simp only [Act.put, List.setIfInBounds_toArray]
        refine wpAnyH_ready (rs := [2]) (by kernel_rfl) (by simp) ?_
        refine AllReadyH.cons rfl (fun J hJ => ?_) AllReadyH.nil
        go_simp
        refine hJ.out _ _ hX4 (fun hSz => ?_)
        clear hJ J
        try simp only [Act.put, List.setIfInBounds_toArray, List.set_cons_zero, List.set_cons_succ]
        refine wpAnyH_take (i := 3) (v := .int .i64 (c1 + 1)) rfl (by kernel_rfl) (by kernel_rfl) (by kernel_rfl) (fun _ _ _ h => h) (Or.inl ⟨by rfl, fun w_ hSw => by (try dsimp only at hSw); go_simp; rw [IntKind.wrap_i64]; omega⟩) hSz ?_
        try simp only [Act.put, List.setIfInBounds_toArray]
        refine wpAnyH_ready (rs := [6]) (by kernel_rfl) (by simp) ?_
        refine AllReadyH.cons rfl (fun J hJ => ?_) AllReadyH.nil
        go_simp
        refine hJ.out _ _ hX5 (fun _ => ?_)
        clear hJ J
        refine wpAnyH_done (by kernel_rfl) ?_ _
        refine NoPanic.normal ?_
        clear hlook hent hlook2 hsto
        by_cases hgt : (e : Int) < c1 + 1
        · have hdg : decide ((e : Int) < c1 + 1) = true := decide_eq_true hgt
          obtain rfl : z = false := HZ2.out (by rw [HTS1.out, ← HCX.out]; exact hgt)
          clear hgt
          go_wp2_with (refine wpList_load_row rfl 60 _ rfl w2.heap.size rfl 60 _ (0, 0) _ hblk5 und61 rfl hinf5 ?_)
          go_ret
          exact ⟨rfl, hB5⟩
        · have hdg : decide ((e : Int) < c1 + 1) = false := decide_eq_false hgt
          have HGT : Hid (¬ (e : Int) < c1 + 1) := hgt
          clear hgt
          go_wp2_with (refine wpList_load_row rfl 60 _ rfl w2.heap.size rfl 60 _ (0, 0) _ hblk5 und61 rfl hinf5 ?_)
          go_roundw
          case rel =>
            refine ⟨i + 1, _, by go_num, by omega, hown5, ?_, ?_, hB5⟩
            · show EntIs _ _
              exact HD.out.put hDm HOK.out (by rw [HTS1.out, ← HCX.out]) HTO1.out
            · show ∀ y, T (i + 1) y ≤ e
              intro y
              by_cases ey : y = x
              · subst ey; rw [HTS1.out, ← HCX.out]; have := HGT.out; omega
              · rw [HTO1.out y ey]; exact HLE.out y
          case measure => simp [intOf]; omega
    · have hdi : decide ((i : Int) < (n : Int)) = false := by simp; omega
      obtain rfl : i = n := by omega
      obtain rfl : z = true := HZ1.out HLE.out
      go_wp2
      go_ret
      exact ⟨rfl, hB⟩
end Go.Proofs.Ytjfjdidibglhaab
