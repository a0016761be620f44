/- The walks of areApart and doCross. -/
import Derived.Test.YtmogmkdcplgfjaaY12
namespace Go.Proofs.Ytmogmkdcplgfjaa
open Go.RowKit Go.Shelf

attribute [local go_sem] Oper.semAt_some

theorem res_bool {fn : Func} {a : Tmp} {tmps : Array Value} {w : World} {g : Nat} {q : Bool} (h : fn.results = #[.cell a 4]) (p : tmps.getD a undef = .pointer (some ⟨g, 0, none⟩)) (h1 : Boxed w g 4 (.bool q)) :
    (results fn tmps).run Try.prog w = .ok (.bool q) w := by
  have e1 := h1.cell
  rw [Array.getD_eq_getD_getElem?] at p
  simp [results, h, go_sem, p, e1]
theorem CK.box {A B : World} (k : CK A B) {g : Nat} {t : TypeId} {v : Value} (h : Boxed A g t v) : Boxed B g t v := k.2 g _ h rfl
/-- The marks that runs of rounds have left, above a block. -/
def Mks (B : Nat) (rs : List Nat) (W : World) : Prop := rs.Nodup ∧ ∀ q ∈ rs, B ≤ q ∧ W.heap[q]? = some (.deferred (some []))
theorem Mks.nil (B : Nat) (W : World) : Mks B [] W := ⟨List.nodup_nil, fun q hq => by simp at hq⟩
theorem Mks.below {B : Nat} {rs : List Nat} {W V : World} (h : Mks B rs W) (b : Below W.heap.size W V) : Mks B rs V :=
  ⟨h.1, fun q hq => ⟨(h.2 q hq).1, (b.block _ (Array.getElem?_eq_some_iff.1 (h.2 q hq).2).1).trans (h.2 q hq).2⟩⟩
theorem Mks.put {B : Nat} {rs : List Nat} {W : World} (h : Mks B rs W) {l : Nat} (o' : Obj) (hr : l ∉ rs) : Mks B rs (W.putObj l o') :=
  ⟨h.1, fun q hq => ⟨(h.2 q hq).1, (World.putObj_heap_other (show q ≠ l from fun e => hr (e ▸ hq))).trans (h.2 q hq).2⟩⟩
theorem Mks.set {B : Nat} {rs : List Nat} {W : World} (h : Mks B rs W) {a : Addr} (v : Value) (hl : a.block < B) : Mks B rs (W.setCell a v) :=
  ⟨h.1, fun q hq => ⟨(h.2 q hq).1, (heap_setCell_other W a q v (by have := (h.2 q hq).1; omega)).trans (h.2 q hq).2⟩⟩
theorem Mks.more {B : Nat} {rs : List Nat} {W : World} (h : Mks B rs W) {q : Nat} (hq : q ∉ rs) (h2 : B ≤ q) (hk : W.heap[q]? = some (.deferred (some []))) : Mks B (q :: rs) W :=
  ⟨List.nodup_cons.2 ⟨hq, h.1⟩, fun p hp => (List.mem_cons.1 hp).elim (fun e => e ▸ ⟨h2, hk⟩) (fun hp => h.2 p hp)⟩
theorem Mks.new {B : Nat} {rs : List Nat} {W : World} (h : Mks B rs W) {l : Nat} (hl : W.heap.size ≤ l) : l ∉ rs := fun hm => by
  have := (Array.getElem?_eq_some_iff.1 (h.2 l hm).2).1
  omega

set_option maxRecDepth 100000 in
set_option maxHeartbeats 16000000 in
theorem areApart_any (n A : Nat) (M : List Nat) (v : Value) (w : World) (hn : n ≤ 12) (HA2 : Hid (2 ^ n = A)) (hv : Wd w v M) (hl : M.length ≤ 4096) (h4 : ∀ i, i < M.length → M.getD i 0 < A) (hr : Rises M) :
    Calls Try.prog 40 #[.int .i64 (n : Int), v] w fun e w' => e = .returned (.bool (twB apP 0 M)) ∧ Below w.heap.size w w' := by
  obtain ⟨z, Hz⟩ : ∃ z, Hid (twB apP 0 M = z) := ⟨_, rfl⟩
  have hA12 : A ≤ 4096 := by rw [← HA2.out]; exact (Nat.pow_le_pow_right (by decide) hn : 2 ^ n ≤ 2 ^ 12)
  have h4096 : ∀ i, i < M.length → M.getD i 0 < 4096 := fun i hi => Nat.lt_of_lt_of_le (h4 i hi) hA12
  have HNO : Hid (∀ i, i < M.length → ∀ x, x ∈ lsL (M.getD i 0) → hd M x = true → z = false) := fun i hi x hx h => by rw [← Hz.out]; exact apart_no hr h4096 hi hx h
  have HYS : Hid ((∀ i, i < M.length → ∀ x, x ∈ lsL (M.getD i 0) → hd M x = false) → z = true) := fun h => by rw [← Hz.out]; exact apart_yes hr h4096 h
  have CH := holders_any n A M v (w.alloc (.cells #[.bool false] 4)) hn HA2 (hv.below (balloc w _)) hl h4
  have f4 := Boxed.new w 4 (.bool false)
  have bA := balloc w (.cells #[.bool false] 4)
  have sA : (w.alloc (.cells #[.bool false] 4)).heap.size = w.heap.size + 1 := by simp
  obtain ⟨wA, HwA⟩ : ∃ wA, Hid (w.alloc (.cells #[.bool false] 4) = wA) := ⟨_, rfl⟩
  rw [HwA.out] at CH f4 bA sA
  obtain ⟨a, c, rfl, -, hA⟩ := hv
  have HA : Hid (∀ W, Below w.heap.size w W → ∀ i, i < M.length → ∃ b off, a = some ⟨b, off, none⟩ ∧ W.cell? ⟨b, off + i, none⟩ = some (.int .i64 ((M.getD i 0 : Nat) : Int))) := fun W bW i hi => by
    obtain ⟨b, o, e, hc⟩ := hA i hi
    exact ⟨b, o, e, (bW.cell (World.block_lt_of_cell? _ _ hc)).trans hc⟩
  have H4 : Hid (∀ i, i < M.length → M.getD i 0 < A) := h4
  rw [Hz.out]
  obtain ⟨m, Hm⟩ : ∃ m, Hid (M.length = m) := ⟨_, rfl⟩
  rw [Hm.out] at HA H4 HNO HYS hl CH ⊢
  obtain ⟨g, Hg⟩ : ∃ g, Hid (w.heap.size = g) := ⟨_, rfl⟩
  have HSA : Hid (wA.heap.size = g + 1) := by show _ = _; rw [sA, Hg.out]
  have HBA : Hid (Below g w wA) := by show Below _ _ _; rw [← Hg.out]; exact bA
  have HF4 : Hid (Boxed wA g 4 (.bool false)) := by show Boxed _ _ _ _; rw [← Hg.out]; exact f4
  clear hA h4 HA2 h4096 hr f4 bA sA
  refine (callsIn_wide (n := 9)).1 (callsIn_of_wp_marks Try.func40 rfl trivial (wpIn_wide.2 ?_) rfl)
  simp only [Try.ntmps40, List.size_toArray, List.length_cons, List.length_nil, Nat.reduceAdd, Nat.reduceSub, Array.replicate_succ, Array.replicate_zero, List.push_toArray, List.append_toArray, List.nil_append, List.cons_append]
  go_wp2_with (rw [HwA.out]; go_at_call 50; refine CH.mono ?_; rintro e w2 ⟨⟨y, rfl, gh, rfl, hO⟩, hb2⟩; clear CH)
  have f5 := Boxed.new w2 51 (.slice (some ⟨gh, 0, none⟩) A A)
  have b3 := balloc w2 (.cells #[.slice (some ⟨gh, 0, none⟩) A A] 51)
  have s3 : (w2.alloc (.cells #[.slice (some ⟨gh, 0, none⟩) A A] 51)).heap.size = w2.heap.size + 1 := by simp
  obtain ⟨w3, Hw3⟩ : ∃ w3, Hid (w2.alloc (.cells #[.slice (some ⟨gh, 0, none⟩) A A] 51) = w3) := ⟨_, rfl⟩
  rw [Hw3.out] at f5 b3 s3 ⊢
  obtain ⟨g5, Hg5⟩ : ∃ g5, Hid (w2.heap.size = g5) := ⟨_, rfl⟩
  have hgh : gh < g5 := by rw [← Hg5.out]; exact hO.lt
  have hg5 : g < g5 := by have := hb2.size; have := HSA.out; have := Hg5.out; omega
  have HO : Hid (∀ W, Below (g5 + 1) w3 W → OwV 4 Value.bool W gh A (hd M)) := fun W hb => (hO.below b3).low hb (by omega)
  have HB5 : Hid (∀ W, Below (g5 + 1) w3 W → Boxed W g5 51 (.slice (some ⟨gh, 0, none⟩) A A)) := fun W hb => boxLow (by rw [← Hg5.out]; exact f5) hb (by omega)
  have HB4 : Hid (∀ W, Below (g5 + 1) w3 W → Boxed W g 4 (.bool false)) := fun W hb => boxLow (boxLow (boxLow HF4.out hb2 (by have := HSA.out; omega)) b3 (by have := Hg5.out; omega)) hb (by omega)
  have HBw : Hid (∀ W, Below (g5 + 1) w3 W → Below g w W) := fun W hb => HBA.out.trans ((hb2.mono (by have := HSA.out; omega)).trans ((b3.mono (by have := Hg5.out; omega)).trans (hb.mono (by omega))))
  have HS3 : Hid (w3.heap.size = g5 + 1) := by show _ = _; rw [s3, Hg5.out]
  rw [Hg5.out, Hg.out]
  clear f5 b3 s3 hO hb2
  go_wp2
  refine wp_loop (fun act W => ∃ (u0 u1 u2 u3 u6 u7 u8 u9 u10 u11 u15 u16 u17 u18 u19 u20 u21 u22 u23 u24 u25 : Value) (i : Nat) (rs : List Nat), act = { tmps := #[u0, u1, u2, u3, .pointer (some ⟨g, 0, none⟩), .pointer (some ⟨g5, 0, none⟩), u6, u7, u8, u9, u10, u11, .slice a m c, .int .i64 (m : Int), .int .i64 (i : Int), u15, u16, u17, u18, u19, u20, u21, u22, u23, u24, u25], defers := rs.map markOf } ∧ i ≤ m ∧ Hid (∀ j, j < i → ∀ x, x ∈ lsL (M.getD j 0) → hd M x = false) ∧ Below (g5 + 1) w3 W ∧ Mks (g5 + 1) rs W) (fun act _ => m - (intOf (act.tmps.getD 14 undef)).toNat) ?start ?round
  case start => exact ⟨_, _, _, _, _, _, _, _, _, _, _, _, _, _, _, _, _, _, _, _, _, 0, [], rfl, by omega, (fun j h => absurd h (by omega) : ∀ j, j < 0 → _), Below.refl _ _, Mks.nil _ _⟩
  case round =>
    rintro act W ⟨u0, u1, u2, u3, u6, u7, u8, u9, u10, u11, u15, u16, u17, u18, u19, u20, u21, u22, u23, u24, u25, i, rs, rfl, hi, HI, hB, hM⟩
    have hsz : g5 + 1 ≤ W.heap.size := by have := hB.size; have := HS3.out; omega
    by_cases hlt : i < m
    · have hdd : decide ((i : Int) < (m : Int)) = true := by simp; omega
      have hii : (i : Int) < (m : Int) := by omega
      obtain ⟨b1, o1, rfl, c1⟩ := HA.out W (by rw [Hg.out]; exact HBw.out W hB) i hlt
      have hyA := H4.out i hlt
      have HNi : Hid (∀ x, x ∈ lsL (M.getD i 0) → hd M x = true → z = false) := HNO.out i hlt
      have HI2 : Hid ((∀ x, x ∈ lsL (M.getD i 0) → hd M x = false) → ∀ j, j < i + 1 → ∀ x, x ∈ lsL (M.getD j 0) → hd M x = false) := fun h j hj => by
        by_cases e : j = i
        · rw [e]; exact h
        · exact HI.out j (by omega)
      obtain ⟨y, Hy⟩ : ∃ y, Hid (M.getD i 0 = y) := ⟨_, rfl⟩
      rw [Hy.out] at c1 hyA HNi HI2
      have CL := lessOne_any y W
      have HBW : Hid (Below (g5 + 1) w3 W) := hB
      have HMW : Hid (Mks (g5 + 1) rs W) := hM
      clear hB hM
      go_wp2_with (go_at_call 49; refine CL.mono ?_; rintro e w4 ⟨rfl, hw4⟩)
      have b4 := balloc W (.cells #[.int .i64 (y : Int)] 3)
      have f9 := Boxed.new W 3 (.int .i64 (y : Int))
      have s4 : (W.alloc (.cells #[.int .i64 (y : Int)] 3)).heap.size = W.heap.size + 1 := by simp
      rw [← hw4] at b4 f9 s4
      have hrs : ∀ l, W.heap.size ≤ l → l ∉ rs := fun l hl => HMW.out.new hl
      have HB4W : Hid (Below (g5 + 1) w3 w4) := HBW.out.trans (b4.mono hsz)
      have HM4 : Hid (Mks (g5 + 1) rs w4) := HMW.out.below b4
      rw [← hw4]
      have HS4 : Hid (w4.heap.size = W.heap.size + 1) := s4
      clear hw4 CL b4 s4
      refine (wpIn_wide (n := 9)).1 (wpIn_runs2 (ys := lsL y) (enc := encI) (Kp := KB W.heap.size) (Ab := AbN) (gf := 56) (lb := #[.pointer (some ⟨W.heap.size, 0, none⟩)]) rfl (enters_of Try.func56 (by kernel_rfl) rfl)
        (less_runs y _ W.heap.size w4 (by omega) f9) (fun _ => rfl) (fun h k => k.trans h) ?hKb (fun _ _ _ _ _ h => h.elim)
        (fun k C => Below (g5 + 1) w3 C ∧ Mks (g5 + 1) rs C ∧ (∀ j, j < k → ∀ x, (lsL y)[j]? = some x → hd M x = false) ∧ w4.heap.size ≤ C.heap.size) (fun _ C => Below g w C ∧ Mks (g5 + 1) rs C ∧ Boxed C g 4 (.bool false) ∧ z = false ∧ w4.heap.size ≤ C.heap.size) ?hIp ?hXp (fun _ _ _ _ _ _ _ h => h.elim) (fun _ _ _ _ _ _ _ h => h.elim) ?h0
        ?a1 ?assign ?body ?done ?stop)
      case hKb =>
        intro C o hC
        have s4 := HS4.out
        exact World.putObj_heap_other (by omega)
      case hIp =>
        rintro k C o o' ⟨g1, g2, g3, g4⟩ _ _
        have s4 := HS4.out
        exact ⟨g1.trans (below_put _ _ (by omega)), g2.put _ (hrs _ (by omega)), g3, by simpa [World.putObj] using g4⟩
      case hXp =>
        rintro k C o o' ⟨g1, g2, g3, g5', g4⟩ _ _
        have s4 := HS4.out
        exact ⟨g1.trans (below_put _ _ (by omega)), g2.put _ (hrs _ (by omega)), boxAt g3 (World.putObj_heap_other (by omega)), g5', by simpa [World.putObj] using g4⟩
      case h0 =>
        intro V hb
        have s4 := HS4.out
        exact ⟨HB4W.out.trans (hb.mono (by omega)), HM4.out.below hb, fun j h => absurd h (by omega), hb.size⟩
      case assign =>
        intro l x W K _ hK
        unfold encI
        gi_wp2
        exact hK
      case body =>
        rintro k x C hx ⟨g1, g2, g3, g4⟩ hD hrec
        have s4 := HS4.out
        have hxm := List.mem_of_getElem? hx
        have hxA : x < A := Nat.lt_trans (ls_lt hxm (by omega)) hyA
        have hxi : (x : Int) < (A : Int) := by omega
        have q5 := (HB5.out C g1).cell
        have q4 := (HB4.out C g1).cell
        have fo := (HB4.out C g1).frozen
        have qx := (HO.out C g1).cell x hxA
        have hno := HNi.out x hxm
        obtain ⟨p, Hp⟩ : ∃ p, Hid (hd M x = p) := ⟨_, rfl⟩
        rw [Hp.out] at qx hno
        cases p with
        | true =>
          have HF : Hid (∀ E, E = C.setCell ⟨g, 0, none⟩ (.bool false) → (E.heap[w4.heap.size]? = C.heap[w4.heap.size]? ∧ E.heap[w4.heap.size + 1]? = C.heap[w4.heap.size + 1]?) ∧ KB W.heap.size (w4.heap.size + 1) C E ∧ Below g w E ∧ Mks (g5 + 1) rs E ∧ Boxed E g 4 (.bool false) ∧ z = false ∧ w4.heap.size ≤ E.heap.size) := by
            rintro E rfl
            have oth : ∀ b, b ≠ g → (C.setCell ⟨g, 0, none⟩ (.bool false)).heap[b]? = C.heap[b]? := fun b hb => heap_setCell_other C ⟨g, 0, none⟩ b _ hb
            exact ⟨⟨oth _ (by omega), oth _ (by omega)⟩, oth _ (by omega), (HBw.out C g1).setCell (p := ⟨g, 0, none⟩) (Nat.le_refl _) _, g2.set _ (by show g < _; omega), (HB4.out C g1).set _, hno rfl, by rw [World.size_setCell]; exact g4⟩
          clear hrec hx hno hxm s4 g3 hD
          gi_wp2
          exact HF.out _ rfl
        | false =>
          have HF : Hid (∀ E, E = C → (E.heap[w4.heap.size]? = C.heap[w4.heap.size]? ∧ E.heap[w4.heap.size + 1]? = C.heap[w4.heap.size + 1]?) ∧ KB W.heap.size (w4.heap.size + 1) C E ∧ Below (g5 + 1) w3 E ∧ Mks (g5 + 1) rs E ∧ (∀ j, j < k + 1 → ∀ x, (lsL y)[j]? = some x → hd M x = false) ∧ w4.heap.size ≤ E.heap.size) := by
            rintro E rfl
            refine ⟨⟨rfl, rfl⟩, rfl, g1, g2, fun j hj x' hx' => ?_, g4⟩
            by_cases e : j = k
            · rw [e, hx] at hx'
              cases hx'
              exact Hp.out
            · exact g3 j (by omega) x' hx'
          clear hrec hx hno hxm s4 g3 hD
          gi_wp2
          exact HF.out _ rfl
      case done =>
        rintro C ⟨g1, g2, g3, g4⟩ hK
        have s4 := HS4.out
        have n3 := g2.more (hrs _ (by omega)) (by omega) hK
        have HI3 : Hid (∀ j, j < i + 1 → ∀ x, x ∈ lsL (M.getD j 0) → hd M x = false) := HI2.out fun x hx => by
          obtain ⟨j, hj⟩ := List.mem_iff_getElem?.1 hx
          exact g3 j (List.getElem?_eq_some_iff.1 hj).1 x hj
        clear s4 g2 g3 g4
        go_wp2
        refine ⟨⟨_, _, _, _, _, _, _, _, _, _, _, _, _, _, _, _, _, _, _, _, _, i + 1, w4.heap.size :: rs, rfl, by omega, HI3, g1, n3⟩, ?_⟩
        show m - ((i : Int) + 1).toNat < m - ((i : Int)).toNat
        omega
      case stop =>
        rintro k C ⟨g1, g2, g3, hz, g4⟩ hK
        have s4 := HS4.out
        have n3 := g2.more (hrs _ (by omega)) (by omega) hK
        refine wpIn_wide.2 ?_
        clear s4
        go_wp2
        refine marks_leave2 (m := g5 + 1) (w4.heap.size :: rs) C n3.1 n3.2 fun D hb hc => ?_
        exact ⟨_, res_bool rfl rfl (hc.box g3), by rw [hz], by rw [Hg.out]; exact g1.trans (hb.mono (by omega))⟩
    · have hdd : decide ((i : Int) < (m : Int)) = false := by simp; omega
      obtain rfl : i = m := by omega
      have q4 := (HB4.out W hB).cell
      have fo := (HB4.out W hB).frozen
      have hz : z = true := HYS.out HI.out
      have hbx := (HB4.out W hB).set (.bool true)
      have hM2 := hM.set (a := ⟨g, 0, none⟩) (.bool true) (by show g < _; omega)
      have HBE : Hid (Below g w (W.setCell ⟨g, 0, none⟩ (.bool true))) := (HBw.out W hB).setCell (p := ⟨g, 0, none⟩) (Nat.le_refl _) _
      go_wp2
      refine marks_leave2 (m := g5 + 1) rs _ hM2.1 hM2.2 fun D hb hc => ?_
      exact ⟨_, res_bool rfl rfl (hc.box hbx), by rw [hz], by rw [Hg.out]; exact HBE.out.trans (hb.mono (by omega))⟩

set_option maxRecDepth 100000 in
set_option maxHeartbeats 16000000 in
theorem doCross_any (n A : Nat) (M : List Nat) (v : Value) (w : World) (hn : n ≤ 12) (HA2 : Hid (2 ^ n = A)) (hv : Wd w v M) (hl : M.length ≤ 4096) (h4 : ∀ i, i < M.length → M.getD i 0 < A) :
    Calls Try.prog 41 #[.int .i64 (n : Int), v] w fun e w' => e = .returned (.bool (twB crP 1 M)) ∧ Below w.heap.size w w' := by
  obtain ⟨z, Hz⟩ : ∃ z, Hid (twB crP 1 M = z) := ⟨_, rfl⟩
  have hA12 : A ≤ 4096 := by rw [← HA2.out]; exact (Nat.pow_le_pow_right (by decide) hn : 2 ^ n ≤ 2 ^ 12)
  have hA1 : 1 ≤ A := by rw [← HA2.out]; exact Nat.two_pow_pos n
  have eA : (1 : Int) * 2 ^ n = (A : Int) := by rw [Int.one_mul, ← HA2.out]; simp
  have hAw : IntKind.i64.wrap (A : Int) = (A : Int) := IntWalk.i64_in _ (by omega)
  have eA1 : (A : Int) - 1 = ((A - 1 : Nat) : Int) := by omega
  have HNO : Hid (∀ i, i < M.length → hd M (A - 1 - M.getD i 0) = true → z = false) := fun i hi h => by rw [← Hz.out]; exact cross_no (n := n) (by rw [HA2.out]; exact h4) hi (by rw [HA2.out]; exact h)
  have HYS : Hid ((∀ i, i < M.length → hd M (A - 1 - M.getD i 0) = false) → z = true) := fun h => by rw [← Hz.out]; exact cross_yes (n := n) (by rw [HA2.out]; exact h4) (by rw [HA2.out]; exact h)
  have HLK : Hid (∀ y, y < A → bits .andNot .i64 ((A - 1 : Nat) : Int) (y : Int) = ((A - 1 - y : Nat) : Int)) := fun y hy => by
    have := lack_at hn (s := y) (by rw [HA2.out]; exact hy)
    rw [HA2.out] at this
    exact this
  have CH := holders_any n A M v w hn HA2 hv hl h4
  obtain ⟨a, c, rfl, -, hA⟩ := hv
  have HA : Hid (∀ W, Below w.heap.size w W → ∀ i, i < M.length → ∃ b off, a = some ⟨b, off, none⟩ ∧ W.cell? ⟨b, off + i, none⟩ = some (.int .i64 ((M.getD i 0 : Nat) : Int))) := fun W bW i hi => by
    obtain ⟨b, o, e, hc⟩ := hA i hi
    exact ⟨b, o, e, (bW.cell (World.block_lt_of_cell? _ _ hc)).trans hc⟩
  have H4 : Hid (∀ i, i < M.length → M.getD i 0 < A) := h4
  rw [Hz.out]
  obtain ⟨m, Hm⟩ : ∃ m, Hid (M.length = m) := ⟨_, rfl⟩
  rw [Hm.out] at HA H4 HNO HYS hl CH ⊢
  obtain ⟨A1, HA1⟩ : ∃ A1, Hid (A - 1 = A1) := ⟨_, rfl⟩
  rw [HA1.out] at HNO HYS HLK eA1
  have hA1w : IntKind.i64.wrap (A1 : Int) = (A1 : Int) := IntWalk.i64_in _ (by have := HA1.out; omega)
  clear hA h4 HA2
  go_enter Try.func41, Try.ntmps41
  go_wp2_with (go_at_call 50; refine CH.mono ?_; rintro e w2 ⟨⟨y, rfl, gh, rfl, hO⟩, hb2⟩; clear CH)
  go_loopw [17] (fun iv wr => ∃ (i : Nat), iv = .int .i64 (i : Int) ∧ i ≤ m ∧ Hid (∀ j, j < i → hd M (A1 - M.getD j 0) = false) ∧ wr = w2) (fun iv _ => (m - intOf iv).toNat)
  case atStart => exact ⟨0, rfl, by omega, (fun j h => absurd h (by omega) : ∀ j, j < 0 → _), rfl⟩
  case round =>
    obtain ⟨i, rfl, hi, HI, rfl⟩ := hrel
    by_cases hlt : i < m
    · have hdd : decide ((i : Int) < (m : Int)) = true := by simp; omega
      have hii : (i : Int) < (m : Int) := by omega
      obtain ⟨b1, o1, rfl, c1⟩ := HA.out wr hb2 i hlt
      have hyA := H4.out i hlt
      have hno := HNO.out i hlt
      have HI2 : Hid (hd M (A1 - M.getD i 0) = false → ∀ j, j < i + 1 → hd M (A1 - M.getD j 0) = false) := fun h j hj => by
        by_cases e : j = i
        · rw [e]; exact h
        · exact HI.out j (by omega)
      obtain ⟨y, Hy⟩ : ∃ y, Hid (M.getD i 0 = y) := ⟨_, rfl⟩
      rw [Hy.out] at c1 hyA hno HI2
      have hlk := HLK.out y hyA
      obtain ⟨x, Hx⟩ : ∃ x, Hid (A1 - y = x) := ⟨_, rfl⟩
      have hxA : x < A := by have := Hx.out; have := HA1.out; omega
      have hxi : (x : Int) < (A : Int) := by omega
      rw [Hx.out] at hlk hno HI2
      have qx := hO.cell x hxA
      obtain ⟨p, Hp⟩ : ∃ p, Hid (hd M x = p) := ⟨_, rfl⟩
      rw [Hp.out] at qx hno HI2
      cases p with
      | true =>
        have hz := hno rfl
        clear hno HI2
        go_wp2
        go_ret
        exact ⟨by rw [hz]; rfl, hb2⟩
      | false =>
        have HI3 : Hid (∀ j, j < i + 1 → hd M (A1 - M.getD j 0) = false) := HI2.out rfl
        clear hno HI2
        go_wp2
        go_roundw
        case rel => exact ⟨i + 1, by go_num, by omega, HI3, by first | rfl | trivial⟩
        case measure => simp [intOf]; omega
    · have hdd : decide ((i : Int) < (m : Int)) = false := by simp; omega
      obtain rfl : i = m := by omega
      have hz : z = true := HYS.out HI.out
      go_wp2
      go_ret
      exact ⟨by rw [hz]; rfl, hb2⟩
end Go.Proofs.Ytmogmkdcplgfjaa
