/- The document's Both, walked. -/
import Derived.Test.YtgdkfbgehbdkjaaDoorE4
import Derived.Test.YtgdkfbgehbdkjaaDoorE6
/- What the document's BasisOf keeps; nothing of the program. -/
namespace Go.Proofs.YtgdkfbgehbdkjaaDoor
section
variable {q n : Nat} {ad mu : Nat → Nat → Nat} {ng : Nat → Nat}
/-- The lists that are marked. -/
def vvB (q n : Nat) (V : Nat → Bool) (v : List Nat) : Bool := (opn q n (shu q v) == v) && V (shu q v)
theorem vv_at {V : Nat → Bool} {c : Nat} (hc : c < q ^ n) : vvB q n V (opn q n c) = V c := by
  unfold vvB
  rw [shu_opn n c hc]
  simp
theorem vv_is (hq : 0 < q) {V : Nat → Bool} {T : List Nat → Prop} (h : ∀ c, c < q ^ n → (V c = true ↔ T (opn q n c))) (hT : ∀ v, T v → Vc q n v) (v : List Nat) : vvB q n V v = true ↔ T v := by
  constructor
  · intro k
    unfold vvB at k
    obtain ⟨k1, k2⟩ := Bool.and_eq_true_iff.1 k
    have e : opn q n (shu q v) = v := eq_of_beq k1
    have hv : Vc q n v := by rw [← e]; exact opn_vc hq n _
    have := (h _ (shu_lt hq n v hv)).1 k2
    rwa [e] at this
  · intro k
    have hv := hT v k
    have e := opn_shu hq n v hv
    have := (h _ (shu_lt hq n v hv)).2 (by rw [e]; exact k)
    unfold vvB
    rw [this, e]
    simp
theorem opn_zero_iff {c : Nat} (hc : c < q ^ n) (hq : 0 < q) : opn q n c = zV n ↔ c = 0 := by
  constructor
  · intro e
    have e2 := shu_opn n c hc
    rw [e, ← opn_null q n, shu_opn n 0 (Nat.pow_pos hq)] at e2
    exact e2.symm
  · intro e; rw [e, opn_null]
def ldC (q n : Nat) (V : Nat → Bool) (c k : Nat) : Bool := (List.range c).any fun d => d != 0 && V d && (ldV (opn q n d) == k)
theorem ldC_one (V : Nat → Bool) (k : Nat) : ldC q n V 1 k = false := by simp [ldC, List.range_succ]
theorem ldC_next (V : Nat → Bool) (c k : Nat) : ldC q n V (c + 1) k = (ldC q n V c k || (c != 0 && V c && (ldV (opn q n c) == k))) := by
  unfold ldC
  rw [List.range_succ, List.any_append]
  simp
theorem ldC_all (hq : 0 < q) (V : Nat → Bool) (k : Nat) : ldC q n V (q ^ n) k = ldsB q n (vvB q n V) k := by
  unfold ldC ldsB allV
  rw [List.any_map, Bool.eq_iff_iff, List.any_eq_true, List.any_eq_true]
  refine exists_congr fun d => and_congr_right fun hd => ?_
  have hd' := List.mem_range.1 hd
  show _ ↔ (vvB q n V (opn q n d) && (ldV (opn q n d) == k) && (opn q n d != zV n)) = true
  rw [vv_at hd']
  have e : (opn q n d != zV n) = (d != 0) := by
    by_cases h : d = 0
    · rw [(opn_zero_iff hd' hq).2 h, h]; simp
    · have : opn q n d ≠ zV n := fun k => h ((opn_zero_iff hd' hq).1 k)
      rw [bne_iff_ne.2 this, bne_iff_ne.2 h]
  rw [e]
  simp only [Bool.and_eq_true]
  exact ⟨fun ⟨⟨a, b⟩, c⟩ => ⟨⟨b, c⟩, a⟩, fun ⟨⟨a, b⟩, c⟩ => ⟨⟨c, a⟩, b⟩⟩
def rwC (q n : Nat) (V : Nat → Bool) (k d : Nat) : Bool := d != 0 && rowB q n (vvB q n V) k (opn q n d)
def outC (q n : Nat) (V : Nat → Bool) (k c : Nat) : List (List Nat) := ((List.range c).filter (rwC q n V k)).map (opn q n)
theorem outC_one (V : Nat → Bool) (k : Nat) : outC q n V k 1 = [] := by simp [outC, List.range_succ, rwC]
theorem outC_yes {V : Nat → Bool} {k c : Nat} (h : rwC q n V k c = true) : outC q n V k (c + 1) = outC q n V k c ++ [opn q n c] := by
  unfold outC
  rw [List.range_succ, List.filter_append, List.map_append]
  simp [h]
theorem outC_no {V : Nat → Bool} {k c : Nat} (h : rwC q n V k c = false) : outC q n V k (c + 1) = outC q n V k c := by
  unfold outC
  rw [List.range_succ, List.filter_append, List.map_append]
  simp [h]
def outL (q n : Nat) (V : Nat → Bool) (k : Nat) : List (List Nat) := (List.range k).flatMap fun k => if ldsB q n (vvB q n V) k then (allV q n).filter (rowB q n (vvB q n V) k) else []
theorem outL_no {V : Nat → Bool} {k : Nat} (h : ldsB q n (vvB q n V) k = false) : outL q n V (k + 1) = outL q n V k := by
  unfold outL
  rw [List.range_succ, List.flatMap_append]
  simp [h]
theorem outC_all (V : Nat → Bool) {k : Nat} (hk : k < n) : outC q n V k (q ^ n) = (allV q n).filter (rowB q n (vvB q n V) k) := by
  unfold outC allV
  rw [List.filter_map]
  congr 1
  refine List.filter_congr fun d _ => ?_
  show (d != 0 && rowB q n (vvB q n V) k (opn q n d)) = rowB q n (vvB q n V) k (opn q n d)
  by_cases e : d = 0
  · have : rowB q n (vvB q n V) k (opn q n d) = false := by
      unfold rowB
      rw [e, opn_null, ldV_z]
      have : (n == k) = false := by simp; omega
      rw [this]
      simp
    rw [this]; simp
  · rw [bne_iff_ne.2 e]; simp
theorem outL_yes {V : Nat → Bool} {k : Nat} (hk : k < n) (h : ldsB q n (vvB q n V) k = true) : outL q n V (k + 1) = outL q n V k ++ outC q n V k (q ^ n) := by
  rw [outC_all V hk]
  unfold outL
  rw [List.range_succ, List.flatMap_append]
  simp [h]
/-- Is it still a row of the basis, the first j columns looked at? -/
def okJ (q n : Nat) (V : Nat → Bool) (k : Nat) (r : List Nat) (j : Nat) : Bool := ((ldV r == k) && (r.getD k 0 == 1)) && (List.range j).all fun j => !(ldsB q n (vvB q n V) j && j != k && r.getD j 0 != 0)
theorem okJ_zero (V : Nat → Bool) (k : Nat) (r : List Nat) : okJ q n V k r 0 = ((ldV r == k) && (r.getD k 0 == 1)) := by simp [okJ]
theorem okJ_next (V : Nat → Bool) (k : Nat) (r : List Nat) (j : Nat) : okJ q n V k r (j + 1) = (okJ q n V k r j && !(ldsB q n (vvB q n V) j && j != k && r.getD j 0 != 0)) := by
  unfold okJ
  rw [List.range_succ, List.all_append]
  simp [Bool.and_assoc]
theorem okJ_all {V : Nat → Bool} {k c : Nat} (hc : c < q ^ n) (h0 : c ≠ 0) (hV : V c = true) : rwC q n V k c = okJ q n V k (opn q n c) n := by
  unfold rwC rowB okJ
  rw [vv_at hc, hV, bne_iff_ne.2 h0]
  simp [Bool.and_assoc]
theorem rwC_no {V : Nat → Bool} {k c : Nat} (hc : c < q ^ n) (hV : V c = false) : rwC q n V k c = false := by
  unfold rwC rowB
  rw [vv_at hc, hV]
  simp
theorem ld_in (h : FqR q ad mu ng) {c : Nat} (hc : c < q ^ n) (h0 : c ≠ 0) : ldV (opn q n c) < n := by
  rcases Nat.lt_or_ge (ldV (opn q n c)) n with e | e
  · exact e
  · exact absurd ((opn_zero_iff hc h.pos).1 (ldV_none (opn_vc h.pos n c) h e)) h0
end
end Go.Proofs.YtgdkfbgehbdkjaaDoor

/- The document's BasisOf, walked. -/
namespace Go.Proofs.YtgdkfbgehbdkjaaDoor
open Go.RowKit

set_option maxRecDepth 100000 in
set_option maxHeartbeats 8000000 in
theorem BasisOf_any (P K n : Nat) (l : List Int) (V : Nat → Bool) (v u : Value) (w : World) (hF : Fld P K l v w) (hu : RdB w u ((P ^ K) ^ n) V) (h1 : 1 ≤ n) (hn : n ≤ 6) (hf : (P ^ K) ^ n ≤ 4096) :
    Calls Tryd.prog 14 #[.agg #[.int .i64 (P : Int), .int .i64 (K : Int), v], .int .i64 (n : Int), u] w fun e w' => ∃ x, e = .returned x ∧ Rw w' x (toZ (basL (P ^ K) n (vvB (P ^ K) n V))) ∧ Below w.heap.size w w' := by
  have hfq := hF.fqr
  have hbx := balloc w (.cells #[.int .i64 (P : Int), .int .i64 (K : Int), v] 24)
  have HX := fl_box (P : Int) (K : Int) v w
  obtain ⟨i22, ti, tz0, tz1, tz2⟩ := info36
  have HI2 : Hid (Tryd.prog.info? 22 = some i22 ∧ i22.zero = some (.slice none 0 0) ∧ i22.size = 1 ∧ i22.bytes = 24) := ⟨ti, tz0, tz1, tz2⟩
  clear ti tz0 tz1 tz2
  have HOpn : Hid (∀ W, Below w.heap.size w W → ∀ c, c < (P ^ K) ^ n → Calls Tryd.prog 33 #[.agg #[.int .i64 (P : Int), .int .i64 (K : Int), v], .int .i64 (n : Int), .int .i64 (c : Int)] W fun e w' => ∃ g, e = .returned (.slice (some ⟨g, 0, none⟩) n n) ∧ W.heap.size ≤ g ∧ OwnN w' g n (fun i => (opn (P ^ K) n c).getD i 0) ∧ Below W.heap.size W w') := fun W b c hc => Open_any P K n c l v W (hF.below b) hn (by omega)
  obtain ⟨q, Hq⟩ : ∃ q, Hid (P ^ K = q) := ⟨_, rfl⟩
  rw [Hq.out] at hfq hf HOpn hu ⊢
  have HOf : Hid (∀ c, ofF n (fun i => (opn q n c).getD i 0) = opn q n c) := fun c => by
    refine (ofF_vc (q := q) (n := n) fun i _ => (opn_vc hfq.pos n c).at hfq.pos i).ext (opn_vc hfq.pos n c) fun i hi => ?_
    rw [ofF_at _ hi]
  have HLd : Hid (∀ c, c < q ^ n → c ≠ 0 → ldV (opn q n c) < n) := fun c hc h0 => ld_in hfq hc h0
  have HLen : Hid (∀ c, (opn q n c).length = n) := fun c => opn_len q n c
  have HLead : Hid (∀ (W : World) (g c : Nat), c < q ^ n → c ≠ 0 → OwnN W g n (fun i => (opn q n c).getD i 0) → Calls Tryd.prog 34 #[.slice (some ⟨g, 0, none⟩) n n] W fun e w' => e = .returned (.int .i64 (ldV (opn q n c) : Int)) ∧ w' = W) := fun W g c hc h0 ho => by
    have hs := (ho.orow (base := 0) (Nat.zero_le _) (by omega)).sl
    rw [HOf.out c] at hs
    exact leadD_any _ _ W hs (by rw [HLen.out]; exact HLd.out c hc h0) (by rw [HLen.out]; omega)
  have HL1 : Hid (∀ k, ldC q n V 1 k = false) := fun k => ldC_one V k
  have HLn : Hid (∀ c k, ldC q n V (c + 1) k = (ldC q n V c k || (c != 0 && V c && (ldV (opn q n c) == k)))) := fun c k => ldC_next V c k
  have HLa : Hid (∀ k, ldC q n V (q ^ n) k = ldsB q n (vvB q n V) k) := fun k => ldC_all hfq.pos V k
  have HC1 : Hid (∀ k, outC q n V k 1 = []) := fun k => outC_one V k
  have HCy : Hid (∀ k c, rwC q n V k c = true → outC q n V k (c + 1) = outC q n V k c ++ [opn q n c]) := fun k c h => outC_yes h
  have HCn : Hid (∀ k c, rwC q n V k c = false → outC q n V k (c + 1) = outC q n V k c) := fun k c h => outC_no h
  have HOn : Hid (∀ k, ldsB q n (vvB q n V) k = false → outL q n V (k + 1) = outL q n V k) := fun k h => outL_no h
  have HOy : Hid (∀ k, k < n → ldsB q n (vvB q n V) k = true → outL q n V (k + 1) = outL q n V k ++ outC q n V k (q ^ n)) := fun k hk h => outL_yes hk h
  have HO0 : Hid (outL q n V 0 = []) := rfl
  have HOe : Hid (outL q n V n = basL q n (vvB q n V)) := rfl
  have HJ0 : Hid (∀ k r, okJ q n V k r 0 = ((ldV r == k) && (r.getD k 0 == 1))) := fun k r => okJ_zero V k r
  have HJn : Hid (∀ k r j, okJ q n V k r (j + 1) = (okJ q n V k r j && !(ldsB q n (vvB q n V) j && j != k && r.getD j 0 != 0))) := fun k r j => okJ_next V k r j
  have HJa : Hid (∀ k c, c < q ^ n → c ≠ 0 → V c = true → rwC q n V k c = okJ q n V k (opn q n c) n) := fun k c hc h0 hV => okJ_all hc h0 hV
  have HJf : Hid (∀ k c, c < q ^ n → V c = false → rwC q n V k c = false) := fun k c hc hV => rwC_no hc hV
  have hA1 : 1 ≤ q ^ n := Nat.pow_pos hfq.pos
  obtain ⟨A, HA⟩ : ∃ A, Hid (q ^ n = A) := ⟨_, rfl⟩
  have HAq : Hid (q ^ n = A) := HA
  rw [HA.out] at hf hA1 HOpn HLd HLead HLa HOy HJa HJf hu
  obtain ⟨O, HO⟩ : ∃ O : Nat → List Nat, Hid (∀ c, opn q n c = O c) := ⟨opn q n, fun c => rfl⟩
  simp only [HO.out] at HOpn HOf HLd HLead HLn HCy HJa HLen
  obtain ⟨D, HD⟩ : ∃ D : Nat → Bool, Hid (∀ k, ldsB q n (vvB q n V) k = D k) := ⟨_, fun k => rfl⟩
  simp only [HD.out] at HLa HOn HOy HJn
  obtain ⟨bb, bo, bc, rfl, hbc⟩ := hu
  obtain ⟨fa, fn, fc, rfl⟩ : ∃ fa fn fc, v = .slice fa fn fc := by obtain ⟨a, c, e, _⟩ := hF.sl; exact ⟨a, _, c, e⟩
  have HIn : Hid (∀ W, Below w.heap.size w W → ∀ c, c < A → W.cell? ⟨bb, bo + c, none⟩ = some (.bool (V c))) := fun W bW c hc => (bW.cell (p := ⟨bb, bo + c, none⟩) (block_lt_of_cell (hbc c hc))).trans (hbc c hc)
  obtain ⟨w0, Hw0⟩ : ∃ w0, Hid (w.alloc (.cells #[.int .i64 (P : Int), .int .i64 (K : Int), .slice fa fn fc] 24) = w0) := ⟨_, rfl⟩
  have HX2 : Hid (∀ W, Below w0.heap.size w0 W → (W.cell? ⟨w.heap.size, 0, none⟩ = some (.int .i64 (P : Int)) ∧ W.cell? ⟨w.heap.size, 1, none⟩ = some (.int .i64 (K : Int)) ∧ W.cell? ⟨w.heap.size, 2, none⟩ = some (.slice fa fn fc))) := by rw [← Hw0.out]; exact HX
  have HB0 : Hid (Below w.heap.size w w0) := by rw [← Hw0.out]; exact hbx
  have hmk := run_makeB n (by omega)
  have Hsz : Hid (w0.heap.size = w.heap.size + 1) := by show _ = _; rw [← Hw0.out]; simp
  have HW : Hid (OwnB (w0.alloc (.cells (madeCells #[.bool false] n) 4)) w0.heap.size n (fun k => ldC q n V 1 k)) := by
    have h := own_newB w0 n
    have e : (fun k => ldC q n V 1 k) = fun _ => false := funext HL1.out
    rw [e]
    exact h
  have hb1 : Hid (Below w0.heap.size w0 (w0.alloc (.cells (madeCells #[.bool false] n) 4))) := balloc w0 _
  rw [Hsz.out] at HW
  clear hF HX hfq hbx hbc HA HO HD HL1
  go_enter Tryd.func14, Tryd.ntmps14
  go_wp2
  rw [Hw0.out]
  clear hmk
  have hGs : w0.heap.size ≤ w.heap.size + 1 := by rw [Hsz.out]; exact Nat.le_refl _
  go_loopw [8, 9, 10] (fun cv _ _ wr => ∃ c : Nat, cv = .int .i64 (c : Int) ∧ 1 ≤ c ∧ c ≤ A ∧ Hid (OwnB wr (w.heap.size + 1) n (fun k => ldC q n V c k)) ∧ Below w0.heap.size w0 wr) (fun cv _ _ _ => (A - intOf cv).toNat)
  case atStart => exact ⟨1, rfl, by omega, by omega, HW, hb1.out⟩
  case round =>
    clear HW hb1
    obtain ⟨c, rfl, hc1, hcA, HOB, hB⟩ := hrel
    by_cases hlt : c < A
    · have hdc : decide ((c : Int) < (A : Int)) = true := by simp; omega
      have hci : (c : Int) < (A : Int) := by omega
      have c1 := HIn.out wr (Below.next HB0.out hB) c hlt
      have hcn := HLn.out c
      have hc0 : (c != 0) = true := bne_iff_ne.2 (by omega)
      by_cases hV : V c = true
      · obtain ⟨y0, y1, y2⟩ := HX2.out wr hB
        have CO := HOpn.out wr (Below.next HB0.out hB) c hlt
        have hld := HLd.out c hlt (by omega)
        have HLe := fun W g => HLead.out W g c hlt (by omega)
        obtain ⟨kk, Hkk⟩ : ∃ kk, Hid (ldV (O c) = kk) := ⟨_, rfl⟩
        rw [Hkk.out] at hld hcn HLe
        have hldi : (kk : Int) < (n : Int) := by omega
        have HLE : Hid (∀ (W : World) (g : Nat), OwnN W g n (fun i => (O c).getD i 0) → Calls Tryd.prog 34 #[.slice (some ⟨g, 0, none⟩) n n] W fun e w' => e = .returned (.int .i64 (kk : Int)) ∧ w' = W) := HLe
        have HSet : Hid (∀ W, OwnB W (w.heap.size + 1) n (fun k => ldC q n V c k) → OwnB (W.setCell ⟨w.heap.size + 1, kk, none⟩ (.bool true)) (w.heap.size + 1) n (fun k => ldC q n V (c + 1) k)) := fun W h => h.set kk true (fun j hj => by
          show (if j = kk then true else ldC q n V c j) = ldC q n V (c + 1) j
          rw [hcn j, hc0, hV]
          by_cases e : j = kk
          · rw [if_pos e, e]; simp
          · have : (kk == j) = false := by simp; omega
            rw [if_neg e, this]; simp)
        rw [hV] at c1
        clear hcn HLe hV hc0
        go_wp2_with (first
          | (go_at_call 33; refine CO.mono ?_; rintro e wv ⟨gv, rfl, hgv, hov, bv⟩; clear CO; have CL := HLE.out wv gv hov; clear HLE)
          | (go_at_call 34; refine CL.mono ?_; rintro e wz ⟨rfl, hwz⟩; replace hwz := hwz.symm; subst hwz; clear CL; have hOw := HOB.out.below bv; have c2 := hOw.cell hld; have f2 := hOw.frozen kk))
        have hset : Hid (OwnB (wv.setCell ⟨w.heap.size + 1, kk, none⟩ (.bool true)) (w.heap.size + 1) n (fun k => ldC q n V (c + 1) k)) := HSet.out wv hOw
        have hBs := (Below.next hB bv).setCell (p := ⟨w.heap.size + 1, kk, none⟩) hGs (.bool true)
        go_roundw
        case rel => exact ⟨c + 1, by go_num, by omega, by omega, hset, hBs⟩
        case measure => simp [intOf]; omega
      · have hVf : V c = false := by simpa using hV
        have HOB2 : Hid (OwnB wr (w.heap.size + 1) n (fun k => ldC q n V (c + 1) k)) := by
          have e : (fun k => ldC q n V (c + 1) k) = fun k => ldC q n V c k := funext fun k => by rw [hcn k, hVf]; simp
          rw [e]; exact HOB.out
        rw [hVf] at c1
        clear hcn hV hVf hc0
        go_wp2
        go_roundw
        case rel => exact ⟨c + 1, by go_num, by omega, by omega, HOB2, hB⟩
        case measure => simp [intOf]; omega
    · have hdc : decide ((c : Int) < (A : Int)) = false := by simp; omega
      have hcn : ¬ c < A := hlt
      have HOD : OwnB wr (w.heap.size + 1) n D := by
        have e : (fun k => ldC q n V c k) = D := funext fun k => by rw [show c = A by omega]; exact HLa.out k
        have h := HOB.out
        rw [e] at h
        exact h
      obtain ⟨wl, Hwl⟩ : ∃ wl, Hid (wl = wr) := ⟨_, rfl⟩
      obtain ⟨gl, Hgl⟩ : ∃ gl, Hid (wl.heap.size = gl) := ⟨_, rfl⟩
      have HLe : Hid (∀ W, Below gl wl W → OwnB W (w.heap.size + 1) n D) := fun W b => by
        rw [← Hwl.out] at HOD
        exact HOD.below (by rw [Hgl.out]; exact b)
      have HBl : Hid (∀ W, Below gl wl W → Below w0.heap.size w0 W) := fun W b => by
        rw [← Hwl.out] at hB
        exact Below.next hB (by rw [Hgl.out]; exact b)
      have HNl : Hid (∀ W W', Below gl wl W → Below W.heap.size W W' → Below gl wl W') := fun W W' b b' => by
        have h := b
        rw [← Hgl.out] at h ⊢
        exact Below.next h b'
      have Hst : Hid (Below gl wl wr) := by rw [← Hgl.out, Hwl.out]; exact Below.refl _ _
      clear HOB hB HOD
      go_wp2
      go_loopw [11, 12, 13, 14, 15, 16, 17] (fun ov kv _ _ _ _ _ wr => ∃ (k om oc : Nat) (oa : Option Addr) (L : List (List Nat)), kv = .int .i64 (k : Int) ∧ k ≤ n ∧ ov = .slice oa om oc ∧ Hid (OR wr gl (.slice oa om oc) L) ∧ Hid (L = outL q n V k) ∧ Hid (L.length = om) ∧ om ≤ k * 4096 ∧ Below gl wl wr) (fun _ kv _ _ _ _ _ _ => (n - intOf kv).toNat)
      case atStart => exact ⟨0, 0, 0, none, [], rfl, by omega, rfl, OR.nil _ _, HO0.out.symm, rfl, by omega, Hst.out⟩
      case round =>
        clear Hst
        obtain ⟨k, om, oc, oa, L, rfl, hk, rfl, HOR, HLk, HLm, hom, hB⟩ := hrel
        by_cases hkn : k < n
        · have hdk : decide ((k : Int) < (n : Int)) = true := by simp; omega
          have hki : (k : Int) < (n : Int) := by omega
          have cD := (HLe.out wr hB).cell hkn
          by_cases hD : D k = true
          · rw [hD] at cD
            have HDk : Hid (D k = true) := hD
            have HL0 : Hid (L = outL q n V k ++ outC q n V k 1) := by show _ = _; rw [HC1.out, List.append_nil]; exact HLk.out
            have HOut : Hid (outL q n V (k + 1) = outL q n V k ++ outC q n V k A) := by
              have h := HOy.out k hkn hD
              show _ = _
              simpa [HAq.out] using h
            clear hD
            go_wp2
            go_loopw [11, 13, 14, 15, 16, 17] (fun ov cv _ _ _ _ wr => ∃ (c om oc : Nat) (oa : Option Addr) (L : List (List Nat)), cv = .int .i64 (c : Int) ∧ 1 ≤ c ∧ c ≤ A ∧ ov = .slice oa om oc ∧ Hid (OR wr gl (.slice oa om oc) L) ∧ Hid (L = outL q n V k ++ outC q n V k c) ∧ Hid (L.length = om) ∧ om ≤ k * 4096 + c ∧ Below gl wl wr) (fun _ cv _ _ _ _ _ => (A - intOf cv).toNat)
            case atStart => exact ⟨1, om, oc, oa, L, rfl, by omega, by omega, rfl, HOR, HL0, HLm, by omega, hB⟩
            case round =>
              clear cD HOR HLk HLm hB hom HL0
              obtain ⟨c, om, oc, oa, L, rfl, hc1, hcA, rfl, HOR, HLk, HLm, hom, hB⟩ := hrel
              by_cases hlt : c < A
              · have hdc : decide ((c : Int) < (A : Int)) = true := by simp; omega
                have hci : (c : Int) < (A : Int) := by omega
                have hBw := HBl.out wr hB
                have c1 := HIn.out wr (Below.next HB0.out hBw) c hlt
                by_cases hV : V c = true
                · have HRw := HJa.out k c hlt (by omega) hV
                  have HRW : Hid (rwC q n V k c = okJ q n V k (O c) n) := HRw
                  obtain ⟨y0, y1, y2⟩ := HX2.out wr hBw
                  have CO := HOpn.out wr (Below.next HB0.out hBw) c hlt
                  have hld := HLd.out c hlt (by omega)
                  have HLE : Hid (∀ (W : World) (g : Nat), OwnN W g n (fun i => (O c).getD i 0) → Calls Tryd.prog 34 #[.slice (some ⟨g, 0, none⟩) n n] W fun e w' => e = .returned (.int .i64 (ldV (O c) : Int)) ∧ w' = W) := fun W g => HLead.out W g c hlt (by omega)
                  have HJ00 := HJ0.out k (O c)
                  have HJN : Hid (∀ j, okJ q n V k (O c) (j + 1) = (okJ q n V k (O c) j && !(D j && j != k && (O c).getD j 0 != 0))) := fun j => HJn.out k (O c) j
                  have HY : Hid (rwC q n V k c = true → outC q n V k (c + 1) = outC q n V k c ++ [O c]) := HCy.out k c
                  have HN : Hid (rwC q n V k c = false → outC q n V k (c + 1) = outC q n V k c) := HCn.out k c
                  have HOfc := HOf.out c
                  obtain ⟨r, Hr⟩ : ∃ r, Hid (O c = r) := ⟨_, rfl⟩
                  rw [Hr.out] at HRW CO HLE HJ00 HJN HY HOfc hld
                  obtain ⟨kk, Hkk⟩ : ∃ kk, Hid (ldV r = kk) := ⟨_, rfl⟩
                  rw [Hkk.out] at HLE HJ00 hld
                  rw [hV] at c1
                  have HOFC : Hid (ofF n (fun i => r.getD i 0) = r) := HOfc
                  have HJZ : Hid (okJ q n V k r 0 = ((kk == k) && (r.getD k 0 == 1))) := HJ00
                  have hBwr : Hid (Below gl wl wr) := hB
                  have hglw : gl ≤ wr.heap.size := by have := hB.size; rw [Hgl.out] at this; exact this
                  clear HRw hV hBw HOfc HJ00 hB
                  by_cases hkk : kk = k
                  · obtain ⟨x1, HX1⟩ : ∃ x1, Hid (r.getD k 0 = x1) := ⟨_, rfl⟩
                    have hqk : ((kk : Int) == (k : Int)) = true := by simp; omega
                    have HKK : Hid (kk = k) := hkk
                    by_cases hx1 : x1 = 1
                    · have hq1 : ((x1 : Int) == 1) = true := by simp; omega
                      have HB00 : Hid (okJ q n V k r 0 = true) := by show _ = _; rw [HJZ.out, HX1.out, hkk, hx1]; simp
                      clear hkk hx1
                      go_wp2_with (first
                        | (go_at_call 33; refine CO.mono ?_; rintro e wv ⟨gv, rfl, hgv, hov, bv⟩; clear CO; have CL := HLE.out wv gv hov; clear HLE)
                        | (go_at_call 34; refine CL.mono ?_; rintro e wz ⟨rfl, hwz⟩; replace hwz := hwz.symm; subst hwz; clear CL; have cK := hov.cell hkn; rw [HX1.out] at cK))
                      have hBv : Hid (Below gl wl wv) := HNl.out wr wv hBwr.out bv
                      have HLv : Hid (OwnB wv (w.heap.size + 1) n D) := HLe.out wv hBv.out
                      have HOv : Hid (OwnN wv gv n (fun i => r.getD i 0)) := hov
                      have HORv : Hid (OR wv gl (.slice oa om oc) L) := HOR.out.below bv
                      have hglv : gl ≤ gv := by omega
                      have hglz : gl ≤ wv.heap.size := by have := bv.size; omega
                      clear hov bv HOR hgv cK
                      clear HOpn HLead HLn HCy HCn HOn HOy HJn HJa HJf HIn HLd
                      go_loopw [16, 17] (fun bv jv wr => ∃ (j : Nat) (b : Bool), jv = .int .i64 (j : Int) ∧ j ≤ n ∧ bv = .bool b ∧ Hid (okJ q n V k r j = b) ∧ wr = wv) (fun _ jv _ => (n - intOf jv).toNat)
                      case atStart => exact ⟨0, true, rfl, by omega, by first | rfl | simp, HB00, rfl⟩
                      case round =>
                        clear HB00
                        obtain ⟨j, b, rfl, hj, rfl, HJb, hw⟩ := hrel
                        replace hw := hw.symm
                        subst hw
                        by_cases hjn : j < n
                        · have hdj : decide ((j : Int) < (n : Int)) = true := by simp; omega
                          have hji : (j : Int) < (n : Int) := by omega
                          have cD := HLv.out.cell hjn
                          have cX := HOv.out.cell hjn
                          have hN := HJN.out j
                          rw [HJb.out] at hN
                          obtain ⟨x, Hx⟩ : ∃ x, Hid (r.getD j 0 = x) := ⟨_, rfl⟩
                          rw [Hx.out] at cX hN
                          by_cases hD : D j = true
                          · rw [hD] at cD hN
                            by_cases hjk : j = k
                            · have hq : ((j : Int) != (k : Int)) = false := by simp; omega
                              have HN2 : Hid (okJ q n V k r (j + 1) = b) := by show _ = _; rw [hN, hjk]; simp
                              have HJK : Hid (j = k) := hjk
                              clear hN hjk
                              go_wp2
                              go_roundw
                              case rel => exact ⟨j + 1, b, by go_num, by omega, rfl, HN2, by first | rfl | trivial⟩
                              case measure => simp [intOf]; omega
                            · have hq : ((j : Int) != (k : Int)) = true := by simp; omega
                              have hqn : (j != k) = true := bne_iff_ne.2 hjk
                              rw [hqn] at hN
                              by_cases hx : x = 0
                              · have hq2 : ((x : Int) != 0) = false := by simp; omega
                                have HN2 : Hid (okJ q n V k r (j + 1) = b) := by show _ = _; rw [hN, hx]; simp
                                clear hN hx hqn hjk
                                go_wp2
                                go_roundw
                                case rel => exact ⟨j + 1, b, by go_num, by omega, rfl, HN2, by first | rfl | trivial⟩
                                case measure => simp [intOf]; omega
                              · have hq2 : ((x : Int) != 0) = true := by simp; omega
                                have HN2 : Hid (okJ q n V k r (j + 1) = false) := by show _ = _; rw [hN, bne_iff_ne.2 hx]; simp
                                clear hN hx hqn hjk
                                go_wp2
                                go_roundw
                                case rel => exact ⟨j + 1, false, by go_num, by omega, rfl, HN2, by first | rfl | trivial⟩
                                case measure => simp [intOf]; omega
                          · have hDf : D j = false := by simpa using hD
                            rw [hDf] at cD hN
                            have HN2 : Hid (okJ q n V k r (j + 1) = b) := by show _ = _; rw [hN]; simp
                            clear hN hD hDf
                            go_wp2
                            go_roundw
                            case rel => exact ⟨j + 1, b, by go_num, by omega, rfl, HN2, by first | rfl | trivial⟩
                            case measure => simp [intOf]; omega
                        · have hdj : decide ((j : Int) < (n : Int)) = false := by simp; omega
                          obtain rfl : n = j := by omega
                          rw [HJb.out] at HRW
                          by_cases hb : b = true
                          · subst hb
                            have HLn2 : Hid (L ++ [r] = outL q n V k ++ outC q n V k (c + 1)) := by show _ = _; rw [HY.out HRW.out, ← List.append_assoc, ← HLk.out]
                            have HLm2 : Hid ((L ++ [r]).length = om + 1) := by show _ = _; rw [List.length_append, HLm.out]; rfl
                            have HRo : Hid (ORow wv gl (.slice (some ⟨gv, 0, none⟩) n n) r) := by
                              have h := HOv.out.orow (base := gl) (by omega) (by omega)
                              rw [HOFC.out] at h
                              exact h
                            obtain ⟨vals, ho1, ho2⟩ := HORv.out
                            rw [HLm.out] at ho1
                            have HO1 : Hid (wv.ownsRow gl 22 1 (.slice oa om oc) om vals) := ho1
                            have HFin : Hid (∀ (v' : Value) (w5 : World), w5.ownsRow gl 22 1 v' (om + 1) (vals ++ [.slice (some ⟨gv, 0, none⟩) n n]) → (wv.alloc (.cells #[.slice (some ⟨gv, 0, none⟩) n n] 22)).grownBy w5 (Value.slice oa om oc).ownBlock → OR w5 gl v' (L ++ [r])) := fun v' w5 h5 hg5 => by
                              refine OR.more (wa := wv.alloc (.cells #[.slice (some ⟨gv, 0, none⟩) n n] 22)) (by rw [HLm.out]; exact HO1.out.alloc _) (fun i u l hu hl => (ho2 i u l hu hl).below (balloc _ _)) (HRo.out.below (balloc _ _)) (by rw [HLm.out]; exact h5) hg5
                            clear ho1 ho2 HRo HORv
                            go_wp2_with (first
                              | (at_builtin; refine wpList_append_own _ rfl _ _ 25 rfl gl 22 i22 (.slice none 0 0) 1 24 undR HI2.out.1 HI2.out.2.1 HI2.out.2.2.1 HI2.out.2.2.2 rfl (by decide) _ om vals rfl (HO1.out.alloc _) ⟨wv.heap.size, 0, none⟩ 1 1 [.slice (some ⟨gv, 0, none⟩) n n] rfl rfl (fun j u hj => by (match j, hj with | 0, hj => simp at hj; subst hj; simp [Addr.add])) (fun u hu => by (simp at hu; subst hu; rfl)) (by (unfold maxLen; omega)) (by omega) (by (simp; omega)) ?_; intro v' w5 hown' hgrow _)
                              | go_in)
                            have HORf : Hid (OR w5 gl v' (L ++ [r])) := HFin.out v' w5 hown' hgrow
                            obtain ⟨va, vc, rfl⟩ := own_slice hown'
                            have hb5 : Below gl wl w5 := (hBv.out.alloc (by omega) _).grown hgrow (by simp; omega) (fun k hk => (HO1.out.lt k hk).1)
                            clear hown' hgrow HFin HO1
                            go_roundw
                            case rel => exact ⟨c + 1, om + 1, vc, va, L ++ [r], by go_num, by omega, by omega, rfl, HORf, HLn2, HLm2, by omega, hb5⟩
                            case measure => simp [intOf]; omega
                          · obtain rfl : b = false := by simpa using hb
                            have HLn2 : Hid (L = outL q n V k ++ outC q n V k (c + 1)) := by show _ = _; rw [HN.out HRW.out]; exact HLk.out
                            clear hb
                            go_wp2
                            go_roundw
                            case rel => exact ⟨c + 1, om, oc, oa, L, by go_num, by omega, by omega, rfl, HORv, HLn2, HLm, by omega, hBv.out⟩
                            case measure => simp [intOf]; omega
                    · have hq1 : ((x1 : Int) == 1) = false := by simp; omega
                      have HB00 : Hid (okJ q n V k r 0 = false) := by show _ = _; rw [HJZ.out, HX1.out]; simp [hx1]
                      clear hkk hx1
                      go_wp2_with (first
                        | (go_at_call 33; refine CO.mono ?_; rintro e wv ⟨gv, rfl, hgv, hov, bv⟩; clear CO; have CL := HLE.out wv gv hov; clear HLE)
                        | (go_at_call 34; refine CL.mono ?_; rintro e wz ⟨rfl, hwz⟩; replace hwz := hwz.symm; subst hwz; clear CL; have cK := hov.cell hkn; rw [HX1.out] at cK))
                      have hBv : Hid (Below gl wl wv) := HNl.out wr wv hBwr.out bv
                      have HLv : Hid (OwnB wv (w.heap.size + 1) n D) := HLe.out wv hBv.out
                      have HOv : Hid (OwnN wv gv n (fun i => r.getD i 0)) := hov
                      have HORv : Hid (OR wv gl (.slice oa om oc) L) := HOR.out.below bv
                      have hglv : gl ≤ gv := by omega
                      have hglz : gl ≤ wv.heap.size := by have := bv.size; omega
                      clear hov bv HOR hgv cK
                      clear HOpn HLead HLn HCy HCn HOn HOy HJn HJa HJf HIn HLd
                      go_loopw [16, 17] (fun bv jv wr => ∃ (j : Nat) (b : Bool), jv = .int .i64 (j : Int) ∧ j ≤ n ∧ bv = .bool b ∧ Hid (okJ q n V k r j = b) ∧ wr = wv) (fun _ jv _ => (n - intOf jv).toNat)
                      case atStart => exact ⟨0, false, rfl, by omega, by first | rfl | simp, HB00, rfl⟩
                      case round =>
                        clear HB00
                        obtain ⟨j, b, rfl, hj, rfl, HJb, hw⟩ := hrel
                        replace hw := hw.symm
                        subst hw
                        by_cases hjn : j < n
                        · have hdj : decide ((j : Int) < (n : Int)) = true := by simp; omega
                          have hji : (j : Int) < (n : Int) := by omega
                          have cD := HLv.out.cell hjn
                          have cX := HOv.out.cell hjn
                          have hN := HJN.out j
                          rw [HJb.out] at hN
                          obtain ⟨x, Hx⟩ : ∃ x, Hid (r.getD j 0 = x) := ⟨_, rfl⟩
                          rw [Hx.out] at cX hN
                          by_cases hD : D j = true
                          · rw [hD] at cD hN
                            by_cases hjk : j = k
                            · have hq : ((j : Int) != (k : Int)) = false := by simp; omega
                              have HN2 : Hid (okJ q n V k r (j + 1) = b) := by show _ = _; rw [hN, hjk]; simp
                              have HJK : Hid (j = k) := hjk
                              clear hN hjk
                              go_wp2
                              go_roundw
                              case rel => exact ⟨j + 1, b, by go_num, by omega, rfl, HN2, by first | rfl | trivial⟩
                              case measure => simp [intOf]; omega
                            · have hq : ((j : Int) != (k : Int)) = true := by simp; omega
                              have hqn : (j != k) = true := bne_iff_ne.2 hjk
                              rw [hqn] at hN
                              by_cases hx : x = 0
                              · have hq2 : ((x : Int) != 0) = false := by simp; omega
                                have HN2 : Hid (okJ q n V k r (j + 1) = b) := by show _ = _; rw [hN, hx]; simp
                                clear hN hx hqn hjk
                                go_wp2
                                go_roundw
                                case rel => exact ⟨j + 1, b, by go_num, by omega, rfl, HN2, by first | rfl | trivial⟩
                                case measure => simp [intOf]; omega
                              · have hq2 : ((x : Int) != 0) = true := by simp; omega
                                have HN2 : Hid (okJ q n V k r (j + 1) = false) := by show _ = _; rw [hN, bne_iff_ne.2 hx]; simp
                                clear hN hx hqn hjk
                                go_wp2
                                go_roundw
                                case rel => exact ⟨j + 1, false, by go_num, by omega, rfl, HN2, by first | rfl | trivial⟩
                                case measure => simp [intOf]; omega
                          · have hDf : D j = false := by simpa using hD
                            rw [hDf] at cD hN
                            have HN2 : Hid (okJ q n V k r (j + 1) = b) := by show _ = _; rw [hN]; simp
                            clear hN hD hDf
                            go_wp2
                            go_roundw
                            case rel => exact ⟨j + 1, b, by go_num, by omega, rfl, HN2, by first | rfl | trivial⟩
                            case measure => simp [intOf]; omega
                        · have hdj : decide ((j : Int) < (n : Int)) = false := by simp; omega
                          obtain rfl : n = j := by omega
                          rw [HJb.out] at HRW
                          by_cases hb : b = true
                          · subst hb
                            have HLn2 : Hid (L ++ [r] = outL q n V k ++ outC q n V k (c + 1)) := by show _ = _; rw [HY.out HRW.out, ← List.append_assoc, ← HLk.out]
                            have HLm2 : Hid ((L ++ [r]).length = om + 1) := by show _ = _; rw [List.length_append, HLm.out]; rfl
                            have HRo : Hid (ORow wv gl (.slice (some ⟨gv, 0, none⟩) n n) r) := by
                              have h := HOv.out.orow (base := gl) (by omega) (by omega)
                              rw [HOFC.out] at h
                              exact h
                            obtain ⟨vals, ho1, ho2⟩ := HORv.out
                            rw [HLm.out] at ho1
                            have HO1 : Hid (wv.ownsRow gl 22 1 (.slice oa om oc) om vals) := ho1
                            have HFin : Hid (∀ (v' : Value) (w5 : World), w5.ownsRow gl 22 1 v' (om + 1) (vals ++ [.slice (some ⟨gv, 0, none⟩) n n]) → (wv.alloc (.cells #[.slice (some ⟨gv, 0, none⟩) n n] 22)).grownBy w5 (Value.slice oa om oc).ownBlock → OR w5 gl v' (L ++ [r])) := fun v' w5 h5 hg5 => by
                              refine OR.more (wa := wv.alloc (.cells #[.slice (some ⟨gv, 0, none⟩) n n] 22)) (by rw [HLm.out]; exact HO1.out.alloc _) (fun i u l hu hl => (ho2 i u l hu hl).below (balloc _ _)) (HRo.out.below (balloc _ _)) (by rw [HLm.out]; exact h5) hg5
                            clear ho1 ho2 HRo HORv
                            go_wp2_with (first
                              | (at_builtin; refine wpList_append_own _ rfl _ _ 25 rfl gl 22 i22 (.slice none 0 0) 1 24 undR HI2.out.1 HI2.out.2.1 HI2.out.2.2.1 HI2.out.2.2.2 rfl (by decide) _ om vals rfl (HO1.out.alloc _) ⟨wv.heap.size, 0, none⟩ 1 1 [.slice (some ⟨gv, 0, none⟩) n n] rfl rfl (fun j u hj => by (match j, hj with | 0, hj => simp at hj; subst hj; simp [Addr.add])) (fun u hu => by (simp at hu; subst hu; rfl)) (by (unfold maxLen; omega)) (by omega) (by (simp; omega)) ?_; intro v' w5 hown' hgrow _)
                              | go_in)
                            have HORf : Hid (OR w5 gl v' (L ++ [r])) := HFin.out v' w5 hown' hgrow
                            obtain ⟨va, vc, rfl⟩ := own_slice hown'
                            have hb5 : Below gl wl w5 := (hBv.out.alloc (by omega) _).grown hgrow (by simp; omega) (fun k hk => (HO1.out.lt k hk).1)
                            clear hown' hgrow HFin HO1
                            go_roundw
                            case rel => exact ⟨c + 1, om + 1, vc, va, L ++ [r], by go_num, by omega, by omega, rfl, HORf, HLn2, HLm2, by omega, hb5⟩
                            case measure => simp [intOf]; omega
                          · obtain rfl : b = false := by simpa using hb
                            have HLn2 : Hid (L = outL q n V k ++ outC q n V k (c + 1)) := by show _ = _; rw [HN.out HRW.out]; exact HLk.out
                            clear hb
                            go_wp2
                            go_roundw
                            case rel => exact ⟨c + 1, om, oc, oa, L, by go_num, by omega, by omega, rfl, HORv, HLn2, HLm, by omega, hBv.out⟩
                            case measure => simp [intOf]; omega
                  · obtain ⟨x1, HX1⟩ : ∃ x1, Hid (r.getD k 0 = x1) := ⟨_, rfl⟩
                    have hqk : ((kk : Int) == (k : Int)) = false := by simp; omega
                    have HB00 : Hid (okJ q n V k r 0 = false) := by show _ = _; rw [HJZ.out]; simp [hkk]
                    clear hkk
                    go_wp2_with (first
                      | (go_at_call 33; refine CO.mono ?_; rintro e wv ⟨gv, rfl, hgv, hov, bv⟩; clear CO; have CL := HLE.out wv gv hov; clear HLE)
                      | (go_at_call 34; refine CL.mono ?_; rintro e wz ⟨rfl, hwz⟩; replace hwz := hwz.symm; subst hwz; clear CL; have cK := hov.cell hkn; rw [HX1.out] at cK))
                    have hBv : Hid (Below gl wl wv) := HNl.out wr wv hBwr.out bv
                    have HLv : Hid (OwnB wv (w.heap.size + 1) n D) := HLe.out wv hBv.out
                    have HOv : Hid (OwnN wv gv n (fun i => r.getD i 0)) := hov
                    have HORv : Hid (OR wv gl (.slice oa om oc) L) := HOR.out.below bv
                    have hglv : gl ≤ gv := by omega
                    have hglz : gl ≤ wv.heap.size := by have := bv.size; omega
                    clear hov bv HOR hgv cK
                    clear HOpn HLead HLn HCy HCn HOn HOy HJn HJa HJf HIn HLd
                    go_loopw [16, 17] (fun bv jv wr => ∃ (j : Nat) (b : Bool), jv = .int .i64 (j : Int) ∧ j ≤ n ∧ bv = .bool b ∧ Hid (okJ q n V k r j = b) ∧ wr = wv) (fun _ jv _ => (n - intOf jv).toNat)
                    case atStart => exact ⟨0, false, rfl, by omega, by first | rfl | simp, HB00, rfl⟩
                    case round =>
                      clear HB00
                      obtain ⟨j, b, rfl, hj, rfl, HJb, hw⟩ := hrel
                      replace hw := hw.symm
                      subst hw
                      by_cases hjn : j < n
                      · have hdj : decide ((j : Int) < (n : Int)) = true := by simp; omega
                        have hji : (j : Int) < (n : Int) := by omega
                        have cD := HLv.out.cell hjn
                        have cX := HOv.out.cell hjn
                        have hN := HJN.out j
                        rw [HJb.out] at hN
                        obtain ⟨x, Hx⟩ : ∃ x, Hid (r.getD j 0 = x) := ⟨_, rfl⟩
                        rw [Hx.out] at cX hN
                        by_cases hD : D j = true
                        · rw [hD] at cD hN
                          by_cases hjk : j = k
                          · have hq : ((j : Int) != (k : Int)) = false := by simp; omega
                            have HN2 : Hid (okJ q n V k r (j + 1) = b) := by show _ = _; rw [hN, hjk]; simp
                            have HJK : Hid (j = k) := hjk
                            clear hN hjk
                            go_wp2
                            go_roundw
                            case rel => exact ⟨j + 1, b, by go_num, by omega, rfl, HN2, by first | rfl | trivial⟩
                            case measure => simp [intOf]; omega
                          · have hq : ((j : Int) != (k : Int)) = true := by simp; omega
                            have hqn : (j != k) = true := bne_iff_ne.2 hjk
                            rw [hqn] at hN
                            by_cases hx : x = 0
                            · have hq2 : ((x : Int) != 0) = false := by simp; omega
                              have HN2 : Hid (okJ q n V k r (j + 1) = b) := by show _ = _; rw [hN, hx]; simp
                              clear hN hx hqn hjk
                              go_wp2
                              go_roundw
                              case rel => exact ⟨j + 1, b, by go_num, by omega, rfl, HN2, by first | rfl | trivial⟩
                              case measure => simp [intOf]; omega
                            · have hq2 : ((x : Int) != 0) = true := by simp; omega
                              have HN2 : Hid (okJ q n V k r (j + 1) = false) := by show _ = _; rw [hN, bne_iff_ne.2 hx]; simp
                              clear hN hx hqn hjk
                              go_wp2
                              go_roundw
                              case rel => exact ⟨j + 1, false, by go_num, by omega, rfl, HN2, by first | rfl | trivial⟩
                              case measure => simp [intOf]; omega
                        · have hDf : D j = false := by simpa using hD
                          rw [hDf] at cD hN
                          have HN2 : Hid (okJ q n V k r (j + 1) = b) := by show _ = _; rw [hN]; simp
                          clear hN hD hDf
                          go_wp2
                          go_roundw
                          case rel => exact ⟨j + 1, b, by go_num, by omega, rfl, HN2, by first | rfl | trivial⟩
                          case measure => simp [intOf]; omega
                      · have hdj : decide ((j : Int) < (n : Int)) = false := by simp; omega
                        obtain rfl : n = j := by omega
                        rw [HJb.out] at HRW
                        by_cases hb : b = true
                        · subst hb
                          have HLn2 : Hid (L ++ [r] = outL q n V k ++ outC q n V k (c + 1)) := by show _ = _; rw [HY.out HRW.out, ← List.append_assoc, ← HLk.out]
                          have HLm2 : Hid ((L ++ [r]).length = om + 1) := by show _ = _; rw [List.length_append, HLm.out]; rfl
                          have HRo : Hid (ORow wv gl (.slice (some ⟨gv, 0, none⟩) n n) r) := by
                            have h := HOv.out.orow (base := gl) (by omega) (by omega)
                            rw [HOFC.out] at h
                            exact h
                          obtain ⟨vals, ho1, ho2⟩ := HORv.out
                          rw [HLm.out] at ho1
                          have HO1 : Hid (wv.ownsRow gl 22 1 (.slice oa om oc) om vals) := ho1
                          have HFin : Hid (∀ (v' : Value) (w5 : World), w5.ownsRow gl 22 1 v' (om + 1) (vals ++ [.slice (some ⟨gv, 0, none⟩) n n]) → (wv.alloc (.cells #[.slice (some ⟨gv, 0, none⟩) n n] 22)).grownBy w5 (Value.slice oa om oc).ownBlock → OR w5 gl v' (L ++ [r])) := fun v' w5 h5 hg5 => by
                            refine OR.more (wa := wv.alloc (.cells #[.slice (some ⟨gv, 0, none⟩) n n] 22)) (by rw [HLm.out]; exact HO1.out.alloc _) (fun i u l hu hl => (ho2 i u l hu hl).below (balloc _ _)) (HRo.out.below (balloc _ _)) (by rw [HLm.out]; exact h5) hg5
                          clear ho1 ho2 HRo HORv
                          go_wp2_with (first
                            | (at_builtin; refine wpList_append_own _ rfl _ _ 25 rfl gl 22 i22 (.slice none 0 0) 1 24 undR HI2.out.1 HI2.out.2.1 HI2.out.2.2.1 HI2.out.2.2.2 rfl (by decide) _ om vals rfl (HO1.out.alloc _) ⟨wv.heap.size, 0, none⟩ 1 1 [.slice (some ⟨gv, 0, none⟩) n n] rfl rfl (fun j u hj => by (match j, hj with | 0, hj => simp at hj; subst hj; simp [Addr.add])) (fun u hu => by (simp at hu; subst hu; rfl)) (by (unfold maxLen; omega)) (by omega) (by (simp; omega)) ?_; intro v' w5 hown' hgrow _)
                            | go_in)
                          have HORf : Hid (OR w5 gl v' (L ++ [r])) := HFin.out v' w5 hown' hgrow
                          obtain ⟨va, vc, rfl⟩ := own_slice hown'
                          have hb5 : Below gl wl w5 := (hBv.out.alloc (by omega) _).grown hgrow (by simp; omega) (fun k hk => (HO1.out.lt k hk).1)
                          clear hown' hgrow HFin HO1
                          go_roundw
                          case rel => exact ⟨c + 1, om + 1, vc, va, L ++ [r], by go_num, by omega, by omega, rfl, HORf, HLn2, HLm2, by omega, hb5⟩
                          case measure => simp [intOf]; omega
                        · obtain rfl : b = false := by simpa using hb
                          have HLn2 : Hid (L = outL q n V k ++ outC q n V k (c + 1)) := by show _ = _; rw [HN.out HRW.out]; exact HLk.out
                          clear hb
                          go_wp2
                          go_roundw
                          case rel => exact ⟨c + 1, om, oc, oa, L, by go_num, by omega, by omega, rfl, HORv, HLn2, HLm, by omega, hBv.out⟩
                          case measure => simp [intOf]; omega
                · have hVf : V c = false := by simpa using hV
                  have HLn2 : Hid (L = outL q n V k ++ outC q n V k (c + 1)) := by show _ = _; rw [HCn.out k c (HJf.out k c hlt hVf)]; exact HLk.out
                  rw [hVf] at c1
                  clear hV hVf
                  go_wp2
                  go_roundw
                  case rel => exact ⟨c + 1, om, oc, oa, L, by go_num, by omega, by omega, rfl, HOR, HLn2, HLm, by omega, hB⟩
                  case measure => simp [intOf]; omega
              · have hdc : decide ((c : Int) < (A : Int)) = false := by simp; omega
                have hcn : ¬ c < A := hlt
                have HLn2 : Hid (L = outL q n V (k + 1)) := by show _ = _; rw [HOut.out, HLk.out, show c = A by omega]
                go_wp2
                go_roundw
                case rel => exact ⟨k + 1, om, oc, oa, L, by go_num, by omega, rfl, HOR, HLn2, HLm, by omega, hB⟩
                case measure => simp [intOf]; omega
          · have hDf : D k = false := by simpa using hD
            have HLn2 : Hid (L = outL q n V (k + 1)) := by show _ = _; rw [HOn.out k hDf]; exact HLk.out
            rw [hDf] at cD
            clear hD hDf
            go_wp2
            go_roundw
            case rel => exact ⟨k + 1, om, oc, oa, L, by go_num, by omega, rfl, HOR, HLn2, HLm, by omega, hB⟩
            case measure => simp [intOf]; omega
        · have hdk : decide ((k : Int) < (n : Int)) = false := by simp; omega
          obtain rfl : n = k := by omega
          have HRz : Hid (Rw wr (.slice oa om oc) (toZ (basL q n (vvB q n V)))) := by
            have h := HOR.out.rw
            rw [HLk.out, HOe.out] at h
            exact h
          have hBB := Below.next HB0.out (HBl.out wr hB)
          go_wp2
          go_ret
          exact ⟨_, rfl, HRz.out, hBB⟩
end Go.Proofs.YtgdkfbgehbdkjaaDoor

namespace Go.Proofs.YtgdkfbgehbdkjaaDoor
open Go.RowKit

def btL (h : Nat → Bool) (k : Nat) : List Value := (List.range k).map fun i => Value.bool (h i)
theorem btL_snoc (h : Nat → Bool) (k : Nat) : btL h (k + 1) = btL h k ++ [.bool (h k)] := by simp [btL, List.range_succ]
theorem rdB_of {w : World} {base n : Nat} {v : Value} {h : Nat → Bool} (k : w.ownsRow base 4 1 v n (btL h n)) (hn : 0 < n) : RdB w v n h := by
  obtain ⟨g, cap, rfl, _, _⟩ := k.form hn
  refine ⟨g, 0, cap, rfl, fun j hj => ?_⟩
  have := k.cells (g := g) rfl j (.bool (h j)) (by simp [btL, hj])
  rw [addr_add0] at this
  rw [Nat.zero_add]
  exact this
set_option maxRecDepth 100000 in
set_option maxHeartbeats 8000000 in
theorem Both_any (n : Nat) (f g : Nat → Bool) (a b : Value) (w : World) (ha : RdB w a n f) (hb : RdB w b n g) (h1 : 1 ≤ n) (hn : n ≤ 4096) :
    Calls Tryd.prog 21 #[a, b] w fun e w' => ∃ x, e = .returned x ∧ RdB w' x n (fun i => f i && g i) ∧ Below w.heap.size w w' := by
  obtain ⟨i4, hi4, hz0, hz1, hz2⟩ := info4
  obtain ⟨ab, ao, ac, rfl, hac⟩ := ha
  obtain ⟨bb, bo, bc, rfl, hbc⟩ := hb
  have HA : Hid (∀ W, Below w.heap.size w W → ∀ c, c < n → W.cell? ⟨ab, ao + c, none⟩ = some (.bool (f c))) := fun W bW c hc => (bW.cell (p := ⟨ab, ao + c, none⟩) (block_lt_of_cell (hac c hc))).trans (hac c hc)
  have HB : Hid (∀ W, Below w.heap.size w W → ∀ c, c < n → W.cell? ⟨bb, bo + c, none⟩ = some (.bool (g c))) := fun W bW c hc => (bW.cell (p := ⟨bb, bo + c, none⟩) (block_lt_of_cell (hbc c hc))).trans (hbc c hc)
  clear hac hbc
  go_enter Tryd.func21, Tryd.ntmps21
  go_wp2
  go_loopw [5, 6] (fun ov iv wr => ∃ i : Nat, iv = .int .i64 (i : Int) ∧ i ≤ n ∧ wr.ownsRow w.heap.size 4 1 ov i (btL (fun i => f i && g i) i) ∧ Below w.heap.size w wr) (fun _ iv _ => (n - intOf iv).toNat)
  case atStart => exact ⟨0, rfl, by omega, World.ownsRow_nil _ _ _ _, Below.refl _ _⟩
  case round =>
    obtain ⟨i, rfl, hi, hown, hB⟩ := hrel
    have hgs := hB.size
    by_cases hlt : i < n
    · have hdi : decide ((i : Int) < (n : Int)) = true := by simp; omega
      have hii : (i : Int) < (n : Int) := by omega
      have c1 := HA.out wr hB i hlt
      have c2 := HB.out wr hB i hlt
      by_cases hf : f i = true
      · rw [hf] at c1
        obtain ⟨y, Hy⟩ : ∃ y, Hid (g i = y) := ⟨_, rfl⟩
        have HS : Hid ((f i && g i) = y) := by show _ = _; rw [hf, Hy.out]; simp
        rw [Hy.out] at c2
        clear hf
        go_wp2_with (first
          | (at_builtin; refine wpList_append_own _ rfl _ _ 33 rfl w.heap.size 4 i4 (.bool false) 1 1 und33 hi4 hz0 hz1 hz2 rfl (by decide) _ _ _ rfl (hown.alloc _) ⟨wr.heap.size, 0, none⟩ 1 1 [.bool y] rfl rfl (fun j u hj => by (match j, hj with | 0, hj => simp at hj; subst hj; simp [Addr.add])) (fun u hu => by (simp at hu; subst hu; rfl)) (by (unfold maxLen; omega)) (by omega) (by (simp; omega)) ?_; intro v' w2 hown' hgrow _)
          | go_in)
        have hb2 : Below w.heap.size w w2 := (hB.alloc (by omega) _).grown hgrow (by simp; omega) (fun k hk => (hown.lt k hk).1)
        have hown2 : w2.ownsRow w.heap.size 4 1 v' (i + 1) (btL (fun i => f i && g i) (i + 1)) := by
          rw [btL_snoc, HS.out]
          exact hown'
        clear hown' hgrow hown hB
        go_roundw
        case rel => exact ⟨i + 1, by go_num, by omega, hown2, hb2⟩
        case measure => simp [intOf]; omega
      · have hff : f i = false := by simpa using hf
        rw [hff] at c1
        have HS : Hid ((f i && g i) = false) := by show _ = _; rw [hff]; simp
        clear hf hff c2
        go_wp2_with (first
          | (at_builtin; refine wpList_append_own _ rfl _ _ 33 rfl w.heap.size 4 i4 (.bool false) 1 1 und33 hi4 hz0 hz1 hz2 rfl (by decide) _ _ _ rfl (hown.alloc _) ⟨wr.heap.size, 0, none⟩ 1 1 [.bool false] rfl rfl (fun j u hj => by (match j, hj with | 0, hj => simp at hj; subst hj; simp [Addr.add])) (fun u hu => by (simp at hu; subst hu; rfl)) (by (unfold maxLen; omega)) (by omega) (by (simp; omega)) ?_; intro v' w2 hown' hgrow _)
          | go_in)
        have hb2 : Below w.heap.size w w2 := (hB.alloc (by omega) _).grown hgrow (by simp; omega) (fun k hk => (hown.lt k hk).1)
        have hown2 : w2.ownsRow w.heap.size 4 1 v' (i + 1) (btL (fun i => f i && g i) (i + 1)) := by
          rw [btL_snoc, HS.out]
          exact hown'
        clear hown' hgrow hown hB
        go_roundw
        case rel => exact ⟨i + 1, by go_num, by omega, hown2, hb2⟩
        case measure => simp [intOf]; omega
    · have hdi : decide ((i : Int) < (n : Int)) = false := by simp; omega
      obtain rfl : n = i := by omega
      have HR := rdB_of hown (by omega)
      go_wp2
      go_ret
      exact ⟨_, rfl, HR, hB⟩
end Go.Proofs.YtgdkfbgehbdkjaaDoor
