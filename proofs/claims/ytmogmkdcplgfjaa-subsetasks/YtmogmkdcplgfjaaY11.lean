/- The walk of shadow. -/
import Derived.Test.YtmogmkdcplgfjaaY10
namespace Go.Proofs.Ytmogmkdcplgfjaa
open Go.RowKit Go.Shelf

attribute [local go_sem] Oper.semAt_some

set_option maxRecDepth 100000 in
set_option maxHeartbeats 16000000 in
theorem shadow_any (n A : Nat) (M : List Nat) (v : Value) (w : World) (hn : n ≤ 12) (HA2 : Hid (2 ^ n = A)) (hv : Wd w v M) (hl : M.length ≤ 4096) (h4 : ∀ i, i < M.length → M.getD i 0 < A) :
    Calls Try.prog 39 #[.int .i64 (n : Int), v] w fun e w' => (∃ y, e = .returned y ∧ Wd w' y (shL n M)) ∧ Below w.heap.size w w' := by
  obtain ⟨i3, ki3, kz0, kz1, kz2⟩ := info3
  have eA : (1 : Int) * 2 ^ n = (A : Int) := by rw [Int.one_mul, ← HA2.out]; simp
  have hA12 : A ≤ 4096 := by rw [← HA2.out]; exact (Nat.pow_le_pow_right (by decide) hn : 2 ^ n ≤ 2 ^ 12)
  have hAw : IntKind.i64.wrap (A : Int) = (A : Int) := IntWalk.i64_in _ (by omega)
  have hmk : ∀ w : World, (Instr.makeSlice 51 (.int .i64 (A : Int)) (.int .i64 (A : Int))).run Try.prog w = .ok (.slice (some ⟨w.heap.size, 0, none⟩) A A) (w.alloc (.cells (madeCells #[.bool false] A) 4)) := fun w => run_makeB A (by omega) w
  obtain ⟨a, c, rfl, -, hA⟩ := hv
  have HA : Hid (∀ W, Below w.heap.size w W → ∀ i, i < M.length → ∃ b off, a = some ⟨b, off, none⟩ ∧ W.cell? ⟨b, off + i, none⟩ = some (.int .i64 ((M.getD i 0 : Nat) : Int))) := fun W bW i hi => by
    obtain ⟨b, o, e, hc⟩ := hA i hi
    exact ⟨b, o, e, (bW.cell (World.block_lt_of_cell? _ _ hc)).trans hc⟩
  have H4 : Hid (∀ i, i < M.length → M.getD i 0 < A) := h4
  have HI0 : Hid (MI w w.heap.size A (shB M 0 0) [] ((w.alloc (.cells (madeCells #[.bool false] A) 4)).alloc (.cells #[.slice (some ⟨w.heap.size, 0, none⟩) A A] 51))) := MI.made A w _ fun j => (sh_zero M j).symm
  have HX : Hid (∀ i, shB M i (lsL (M.getD i 0)).length = shB M (i + 1) 0) := sh_next M
  have HSt : Hid (∀ i k x, (lsL (M.getD i 0))[k]? = some x → updV (shB M i k) x true = shB M i (k + 1)) := fun i k x h => sh_step h
  have hall := sh_all hn (M := M) (by rw [HA2.out]; exact h4)
  obtain ⟨m, Hm⟩ : ∃ m, Hid (M.length = m) := ⟨_, rfl⟩
  obtain ⟨B, HBm⟩ : ∃ B, Hid (shB M m 0 = B) := ⟨_, rfl⟩
  have HZ : Hid (shL n M = (List.range A).filter B) := by show _ = _; unfold shL; rw [HA2.out, ← hall, Hm.out, HBm.out]
  rw [Hm.out] at HA H4 hl ⊢
  rw [HZ.out]
  obtain ⟨g, Hg⟩ : ∃ g, Hid (w.heap.size = g) := ⟨_, rfl⟩
  clear hA h4 HZ HA2 hall
  refine (callsIn_wide (n := 9)).1 (callsIn_of_wp_marks Try.func39 rfl trivial (wpIn_wide.2 ?_) rfl)
  simp only [Try.ntmps39, List.size_toArray, List.length_cons, List.length_nil, Nat.reduceAdd, Nat.reduceSub, Array.replicate_succ, Array.replicate_zero, List.push_toArray, List.append_toArray, List.nil_append, List.cons_append]
  go_wp2
  rw [Hg.out] at HI0 ⊢
  refine wp_loop (fun act W => ∃ (u7 u8 u18 u19 u20 u21 u22 u23 u24 u25 u26 u27 : Value) (i : Nat) (rs : List Nat), act = { tmps := #[.int .i64 (n : Int), .slice a m c, undef, undef, .slice none 0 0, .pointer (some ⟨g + 1, 0, none⟩), undef, u7, u8, undef, undef, undef, .int .i64 (n : Int), .int .i64 (A : Int), .slice (some ⟨g, 0, none⟩) A A, .slice a m c, .int .i64 (m : Int), .int .i64 (i : Int), u18, u19, u20, u21, u22, u23, u24, u25, u26, u27, undef, undef, undef, undef, undef, undef, undef, undef, undef, undef, undef, undef, undef, undef], defers := rs.map markOf } ∧ i ≤ m ∧ MI w g A (shB M i 0) rs W) (fun act _ => m - (intOf (act.tmps.getD 17 undef)).toNat) ?start ?round
  case start => exact ⟨undef, undef, undef, undef, undef, undef, undef, undef, undef, undef, undef, undef, 0, [], rfl, by omega, HI0.out⟩
  case round =>
    clear HI0
    rintro act W ⟨u7, u8, u18, u19, u20, u21, u22, u23, u24, u25, u26, u27, i, rs, rfl, hi, hI⟩
    have hsz := hI.size
    by_cases hlt : i < m
    · have hd : decide ((i : Int) < (m : Int)) = true := by simp; omega
      have hii : (i : Int) < (m : Int) := by omega
      obtain ⟨b1, o1, rfl, c1⟩ := HA.out W (by rw [Hg.out]; exact hI.bw) i hlt
      have hyA := H4.out i hlt
      have hX := HX.out i
      have HSi : Hid (∀ k x, (lsL (M.getD i 0))[k]? = some x → updV (shB M i k) x true = shB M i (k + 1)) := HSt.out i
      obtain ⟨y, Hy⟩ : ∃ y, Hid (M.getD i 0 = y) := ⟨_, rfl⟩
      rw [Hy.out] at c1 hyA hX HSi
      have HXi : Hid (shB M i (lsL y).length = shB M (i + 1) 0) := hX
      have CL := lessOne_any y W
      have HI : Hid (MI w g A (shB M i 0) rs W) := hI
      clear hI hX
      go_wp2_with (go_at_call 49; refine CL.mono ?_; rintro e w2 ⟨rfl, hw2⟩)
      have b2 := balloc W (.cells #[.int .i64 (y : Int)] 3)
      have f9 := Boxed.new W 3 (.int .i64 (y : Int))
      have s2 : (W.alloc (.cells #[.int .i64 (y : Int)] 3)).heap.size = W.heap.size + 1 := by simp
      rw [← hw2] at b2 f9 s2
      have hrs : ∀ l, W.heap.size ≤ l → l ∉ rs := fun l hl => HI.out.new hl
      have HI2 : Hid (MI w g A (shB M i 0) rs w2) := HI.out.below b2
      rw [← hw2]
      have HS2 : Hid (w2.heap.size = W.heap.size + 1) := s2
      clear hw2 CL b2 s2
      refine (wpIn_wide (n := 9)).1 (wpIn_runs2 (ys := lsL y) (enc := encI) (Kp := KB W.heap.size) (Ab := AbN) (gf := 56) (lb := #[.pointer (some ⟨W.heap.size, 0, none⟩)]) rfl (enters_of Try.func56 (by kernel_rfl) rfl)
        (less_runs y _ W.heap.size w2 (by omega) f9) (fun _ => rfl) (fun h k => k.trans h) ?hKb (fun _ _ _ _ _ h => h.elim)
        (fun k C => MI w g A (shB M i k) rs C ∧ Boxed C W.heap.size 3 (.int .i64 (y : Int)) ∧ w2.heap.size ≤ C.heap.size) (fun _ _ => False) ?hIp (fun _ _ _ _ h => h.elim) (fun _ _ _ _ _ _ _ h => h.elim) (fun _ _ _ _ h => h.elim) ?h0
        ?a1 ?assign ?body ?done (fun _ _ h => h.elim))
      case hKb =>
        intro C o hC
        have s2 := HS2.out
        exact World.putObj_heap_other (by omega)
      case hIp =>
        rintro k C o o' ⟨g1, g2, g3⟩ _ _
        have s2 := HS2.out
        exact ⟨g1.put _ (by omega) (hrs _ (by omega)), boxAt g2 (World.putObj_heap_other (by omega)), by simpa [World.putObj] using g3⟩
      case h0 =>
        intro V hb
        have s2 := HS2.out
        exact ⟨HI2.out.below hb, boxLow f9 hb (by omega), hb.size⟩
      case assign =>
        intro l x W K _ hK
        unfold encI
        gi_wp2
        exact hK
      case body =>
        rintro k x C hx ⟨g1, g2, g3⟩ hD hrec
        have s2 := HS2.out
        have hxA : x < A := Nat.lt_trans (ls_lt (List.mem_of_getElem? hx) (by omega)) hyA
        have hxi : (x : Int) < (A : Int) := by omega
        have q5 := g1.b.cell
        have qo := g1.o.cell x hxA
        have fo := g1.o.frozen x
        have hst := HSi.out k x hx
        have HF : Hid (∀ E, E = C.setCell ⟨g, x, none⟩ (.bool true) → (E.heap[w2.heap.size]? = C.heap[w2.heap.size]? ∧ E.heap[w2.heap.size + 1]? = C.heap[w2.heap.size + 1]?) ∧ KB W.heap.size (w2.heap.size + 1) C E ∧ MI w g A (shB M i (k + 1)) rs E ∧ Boxed E W.heap.size 3 (.int .i64 (y : Int)) ∧ w2.heap.size ≤ E.heap.size) := by
          rintro E rfl
          have oth : ∀ b, b ≠ g → (C.setCell ⟨g, x, none⟩ (.bool true)).heap[b]? = C.heap[b]? := fun b hb => heap_setCell_other C ⟨g, x, none⟩ b _ hb
          refine ⟨⟨oth _ (by omega), oth _ (by omega)⟩, oth _ (by omega), ?_, boxAt g2 (oth _ (by omega)), by rw [World.size_setCell]; exact g3⟩
          rw [← hst]
          exact g1.set x true
        clear hrec hx hst s2
        gi_wp2
        exact HF.out _ rfl
      case done =>
        rintro C ⟨g1, g2, g3⟩ hK
        have s2 := HS2.out
        rw [HXi.out] at g1
        have n3 := g1.more (hrs _ (by omega)) (by omega) hK
        clear s2 g1 g2 g3
        go_wp2
        refine ⟨⟨_, _, _, _, _, _, _, _, _, _, _, _, i + 1, w2.heap.size :: rs, rfl, by omega, n3⟩, ?_⟩
        show m - ((i : Int) + 1).toNat < m - ((i : Int)).toNat
        omega
    · have hd : decide ((i : Int) < (m : Int)) = false := by simp; omega
      obtain rfl : i = m := by omega
      rw [HBm.out] at hI
      have q5 := hI.b.cell
      have HNd : Hid (rs.Nodup) := hI.nd
      have HMk : Hid (∀ V, Below W.heap.size W V → ∀ q ∈ rs, g + 2 ≤ q ∧ V.heap[q]? = some (.deferred (some []))) := fun V hb q hq => ⟨(hI.mks q hq).1, (hb.block _ (Array.getElem?_eq_some_iff.1 (hI.mks q hq).2).1).trans (hI.mks q hq).2⟩
      have HO : Hid (∀ V, Below W.heap.size W V → OwV 4 Value.bool V g A B) := fun V hb => hI.o.low hb (by omega)
      have HB : Hid (∀ V, Below W.heap.size W V → Below g w V) := fun V hb => hI.bw.trans (hb.mono (by omega))
      obtain ⟨G, HG⟩ : ∃ G, Hid (W.heap.size = G) := ⟨_, rfl⟩
      have hown0 := World.ownsRow_nil W G 3 1
      have hB0 : Below G W W := Below.refl _ _
      rw [HG.out] at HMk HO HB hsz
      go_wp2
      go_loopw [9, 30] (fun ov sv wr => ∃ (s : Nat) (P : List Nat) (oa : Option Addr) (oc : Nat), sv = .int .i64 (s : Int) ∧ ov = .slice oa P.length oc ∧ s ≤ A ∧ Hid (P = (List.range s).filter B) ∧ wr.ownsRow G 3 1 (.slice oa P.length oc) P.length (nz P) ∧ Below G W wr) (fun _ sv _ => (A - intOf sv).toNat)
      case atStart => exact ⟨0, [], none, 0, rfl, rfl, by omega, rfl, hown0, hB0⟩
      case round =>
        clear hown0 hB0 hI q5
        obtain ⟨s, P, oa, oc, rfl, rfl, hs, HP, hown, hB⟩ := hrel
        have hO := HO.out wr hB
        have hgs : g < wr.heap.size := hO.lt
        have hPl : P.length ≤ s := by rw [HP.out]; exact filt_len B s
        have hbs := hB.size
        have HGs : Hid (G ≤ wr.heap.size) := by have := hB.size; have := HG.out; show _ ≤ _; omega
        by_cases hsl : s < A
        · have hds : decide (s < A) = true := by simpa using hsl
          have hds2 : decide ((s : Int) < (A : Int)) = true := by simp; omega
          have hss : (s : Int) < (A : Int) := by omega
          have hcs := hO.cell s hsl
          obtain ⟨k, hk⟩ : ∃ k, Hid (P.length = k) := ⟨_, rfl⟩
          cases e : B s with
          | true =>
            rw [e] at hcs
            have HP2 : Hid (P ++ [s] = (List.range (s + 1)).filter B) := by show _ = _; rw [filt_yes e, ← HP.out]
            have hpl : (P ++ [s]).length = k + 1 := by rw [List.length_append, hk.out]; rfl
            rw [hk.out] at hown hPl ⊢
            clear e hO hbs
            go_wp2_with (first
              | (at_builtin; refine wpList_append_own _ rfl _ _ 22 rfl G 3 i3 (.int .i64 0) 1 8 und22 ki3 kz0 kz1 kz2 rfl (by decide) _ _ _ rfl (hown.alloc _) ⟨wr.heap.size, 0, none⟩ 1 1 [.int .i64 (s : Int)] rfl rfl ?c1 ?c2 ?c3 ?c4 ?c5 ?_)
              | go_in)
            case c1 =>
              intro j u hj
              match j, hj with
              | 0, hj => simp at hj; subst hj; simp [Addr.add]
            case c2 => intro u hu; simp at hu; subst hu; rfl
            case c3 => unfold maxLen; omega
            case c4 => omega
            case c5 => have := HGs.out; simp; omega
            intro v' w6 hown' hgrow _
            have hb6 : Below G W w6 := (hB.alloc HGs.out _).grown hgrow (by have := HGs.out; simp; omega) (fun k hk => (hown.lt k hk).1)
            rw [show nz P ++ [Value.int .i64 (s : Int)] = nz (P ++ [s]) from (nz_more P s).symm] at hown'
            obtain ⟨xa, xc, rfl⟩ := own_form hown'
            go_wp2
            go_roundw
            case rel => exact ⟨s + 1, P ++ [s], xa, xc, by go_num, by rw [hpl], by omega, HP2, by rw [hpl]; exact hown', hb6⟩
            case measure => simp [intOf]; omega
          | false =>
            rw [e] at hcs
            have HP2 : Hid (P = (List.range (s + 1)).filter B) := by show _ = _; rw [filt_no e, ← HP.out]
            clear e hO hbs
            go_wp2
            go_roundw
            case rel => exact ⟨s + 1, P, oa, oc, by go_num, rfl, by omega, HP2, hown, hB⟩
            case measure => simp [intOf]; omega
        · have hds : decide (s < A) = false := by simpa using hsl
          have hds2 : decide ((s : Int) < (A : Int)) = false := by simp; omega
          obtain rfl : s = A := by omega
          have hO2 : ORow wr G (.slice oa P.length oc) P := hown
          have HBw := HB.out wr hB
          have HMw := HMk.out wr hB
          clear hO hbs
          go_wp2
          refine marks_leave2 (m := g + 2) rs wr HNd.out HMw fun D hb hc => ?_
          refine ⟨_, results_tmp (t := 4) rfl _ _ _, ⟨_, rfl, ?_⟩, ?_⟩
          · rw [← HP.out]
            have hO3 : ORow D G (.slice oa P.length oc) P := hc.row hO2
            exact hO3.own
          · rw [Hg.out]; exact HBw.trans (hb.mono (by omega))
end Go.Proofs.Ytmogmkdcplgfjaa
