/- Lists of squares that are read; the walk of checkSquares. -/
import Derived.Test.YtjfjdidibglhaaaDoorL3
import Derived.Test.YtjfjdidibglhaaaDoorDOw
namespace Go.Proofs.YtjfjdidibglhaaaDoor.Ar
open Go.RowKit

/-- A slice that reads as squares. -/
def SqL (w : World) (v : Value) (qs : List (Int × List Int)) : Prop := ∃ a cap, v = .slice a qs.length cap ∧ ∀ i q, qs[i]? = some q → ∃ b off u, a = some ⟨b, off, none⟩ ∧ w.cell? ⟨b, off + i * 2, none⟩ = some (.int .i64 q.1) ∧ w.cell? ⟨b, off + i * 2 + 1, none⟩ = some u ∧ Sl w u q.2
theorem SqL.below {w w' : World} {v : Value} {qs : List (Int × List Int)} (h : SqL w v qs) (hb : Below w.heap.size w w') : SqL w' v qs := by
  obtain ⟨a, cap, rfl, h⟩ := h
  refine ⟨a, cap, rfl, fun i q hq => ?_⟩
  obtain ⟨b, off, u, e, h1, h2, h3⟩ := h i q hq
  exact ⟨b, off, u, e, (hb.cell (World.block_lt_of_cell? _ _ h1)).trans h1, (hb.cell (World.block_lt_of_cell? _ _ h2)).trans h2, h3.below hb⟩
theorem SqL.at {w : World} {v : Value} {qs : List (Int × List Int)} (h : SqL w v qs) {i : Nat} {q : Int × List Int} (hi : qs[i]? = some q) {a : Option Addr} {n cap : Nat} (e : v = .slice a n cap) : ∃ b off u, a = some ⟨b, off, none⟩ ∧ w.cell? ⟨b, off + i * 2, none⟩ = some (.int .i64 q.1) ∧ w.cell? ⟨b, off + i * 2 + 1, none⟩ = some u ∧ Sl w u q.2 := by
  obtain ⟨a', cap', e', hr⟩ := h
  rw [e] at e'
  simp only [Value.slice.injEq] at e'
  obtain ⟨rfl, _, _⟩ := e'
  exact hr i q hi
/-- The first thing that is wrong with a square. -/
def qsF : List (Int × List Int) → Nat
  | [] => 0
  | q :: qs => if lF q.1 q.2 ≠ 0 then lF q.1 q.2 else qsF qs
def sdB (s : Int) (qs : List (Int × List Int)) : Bool := qs.all fun q => q.1 == s
def csF (qs : List (Int × List Int)) : Nat := if qs.length = 0 ∨ 6 < qs.length then 3 else if qsF qs ≠ 0 then qsF qs else if sdB (qs.headD (0, [])).1 qs then 0 else 2
theorem qsF_at : ∀ {qs : List (Int × List Int)} {i : Nat} {q : Int × List Int}, qs[i]? = some q → (∀ m p, m < i → qs[m]? = some p → lF p.1 p.2 = 0) → lF q.1 q.2 ≠ 0 → qsF qs = lF q.1 q.2
  | [], i, b, h, _, _ => by simp at h
  | c :: ls, 0, b, h, _, hn => by
    obtain rfl : c = b := by simpa using h
    unfold qsF
    rw [if_pos hn]
  | c :: ls, i + 1, b, h, hm, hn => by
    have h0 := hm 0 c (by omega) rfl
    unfold qsF
    rw [if_neg (by omega)]
    exact qsF_at (i := i) (by simpa using h) (fun m d hd e => hm (m + 1) d (by omega) (by simpa using e)) hn
theorem qsF_none : ∀ {qs : List (Int × List Int)}, (∀ (m : Nat) p, qs[m]? = some p → lF p.1 p.2 = 0) → qsF qs = 0
  | [], _ => rfl
  | c :: ls, h => by
    have h0 := h 0 c rfl
    unfold qsF
    rw [if_neg (by omega)]
    exact qsF_none fun m d e => h (m + 1) d (by simpa using e)
theorem qsF_is : ∀ {qs : List (Int × List Int)}, qsF qs = 0 → ∀ q ∈ qs, lF q.1 q.2 = 0
  | [], _, l, hl => by simp at hl
  | c :: ls, h, l, hl => by
    unfold qsF at h
    split at h
    · omega
    · rcases List.mem_cons.1 hl with rfl | hl
      · omega
      · exact qsF_is h l hl
/-- Squares that pass. -/
structure GoodQ (n : Nat) (qs : List (Int × List Int)) : Prop where
  l1 : 1 ≤ qs.length
  l6 : qs.length ≤ 6
  sq : ∀ q ∈ qs, q.1 = (n : Int) ∧ GoodS n q.2
theorem csF_good {qs : List (Int × List Int)} (h : csF qs = 0) : ∃ n, GoodQ n qs := by
  unfold csF at h
  split at h
  · omega
  · rename_i h1
    split at h
    · omega
    · rename_i h2
      split at h
      · rename_i h3
        have hq := qsF_is (qs := qs) (by omega)
        cases qs with
        | nil => simp at h1
        | cons q qs =>
          obtain ⟨n, hn, hg⟩ := lF_ok (hq q List.mem_cons_self)
          refine ⟨n, by simp, by simp at h1 ⊢; omega, fun p hp => ?_⟩
          have hs : p.1 = (n : Int) := by
            unfold sdB at h3
            have := List.all_eq_true.1 h3 p hp
            have e : p.1 = q.1 := by simpa using this
            rw [e, hn]
          obtain ⟨m, hm, hgm⟩ := lF_ok (hq p hp)
          have : m = n := by omega
          subst this
          exact ⟨hs, hgm⟩
      · omega
theorem GoodQ.csF {n : Nat} {qs : List (Int × List Int)} (h : GoodQ n qs) : csF qs = 0 := by
  have h1 := h.l1
  have h6 := h.l6
  unfold Go.Proofs.YtjfjdidibglhaaaDoor.Ar.csF
  rw [if_neg (by omega), if_neg, if_pos]
  · unfold sdB
    rw [List.all_eq_true]
    intro q hq
    cases qs with
    | nil => simp at h1
    | cons p qs => simp [(h.sq q hq).1, (h.sq p List.mem_cons_self).1]
  · rw [qsF_none fun m p hp => by
      obtain ⟨e, hg⟩ := h.sq p (List.mem_of_getElem? hp)
      rw [e]
      exact lF_good hg]
    simp
theorem sq_box2 (s : Int) (u : Value) (w : World) : (w.alloc (.cells #[.int .i64 s, u] 49)).cell? ⟨w.heap.size, 0, none⟩ = some (.int .i64 s) ∧ (w.alloc (.cells #[.int .i64 s, u] 49)).cell? ⟨w.heap.size, 1, none⟩ = some u :=
  ⟨by rw [cell_of_row _ _ _ _ _ _ (heap_alloc_new w _)]; rfl, by rw [cell_of_row _ _ _ _ _ _ (heap_alloc_new w _)]; rfl⟩
set_option maxRecDepth 100000 in
set_option maxHeartbeats 8000000 in
theorem checkSquares_any (qs : List (Int × List Int)) (v : Value) (w : World) (hv : SqL w v qs) (hl : qs.length ≤ maxLen) (hll : ∀ q ∈ qs, q.2.length ≤ maxLen) :
    Calls Tryd.prog 22 #[v] w fun e w' => e = .returned (.int .i64 (csF qs : Int)) ∧ Below w.heap.size w w' := by
  obtain ⟨z, Hz⟩ : ∃ z, Hid (csF qs = z) := ⟨_, rfl⟩
  rw [Hz.out]
  obtain ⟨n, Hn⟩ : ∃ n, Hid (qs.length = n) := ⟨_, rfl⟩
  have HV : Hid (∀ W, Below w.heap.size w W → SqL W v qs) := fun W b => hv.below b
  obtain ⟨a, cap, rfl, -⟩ := hv
  rw [Hn.out] at hl HV ⊢
  unfold maxLen at hl
  by_cases h0 : n = 0
  · obtain rfl : z = 3 := by rw [← Hz.out]; unfold csF; rw [Hn.out, if_pos (.inl h0)]
    subst h0
    go_enter Tryd.func22, Tryd.ntmps22
    go_wp2
    go_ret
    exact ⟨rfl, Below.refl _ _⟩
  · have e0 : ((n : Int) == 0) = false := by rw [beq_eq_false_iff_ne]; omega
    have e0n : (n == 0) = false := by rw [beq_eq_false_iff_ne]; omega
    by_cases h6 : 6 < n
    · obtain rfl : z = 3 := by rw [← Hz.out]; unfold csF; rw [Hn.out, if_pos (.inr h6)]
      have e1 : decide ((6 : Int) < (n : Int)) = true := by simp; omega
      have e1n : decide (6 < n) = true := by simp; omega
      go_enter Tryd.func22, Tryd.ntmps22
      go_wp2
      go_ret
      exact ⟨rfl, Below.refl _ _⟩
    · have e1 : decide ((6 : Int) < (n : Int)) = false := by simp; omega
      have e1n : decide (6 < n) = false := by simp; omega
      have hzz : z = if qsF qs ≠ 0 then qsF qs else if sdB (qs.headD (0, [])).1 qs then 0 else 2 := by
        rw [← Hz.out]; unfold csF; rw [Hn.out, if_neg (by omega)]
      have HZ1 : Hid (∀ (i : Nat) (q : Int × List Int), qs[i]? = some q → (∀ (m : Nat) (p : Int × List Int), m < i → qs[m]? = some p → lF p.1 p.2 = 0) → lF q.1 q.2 ≠ 0 → z = lF q.1 q.2) := fun i q h1 h2 h3 => by
        rw [hzz, qsF_at h1 h2 h3, if_pos h3]
      obtain ⟨q0, hq0⟩ : ∃ q0, qs[0]? = some q0 := ⟨_, List.getElem?_eq_getElem (by rw [Hn.out]; omega)⟩
      have hhd : qs.headD (0, []) = q0 := by cases qs with
        | nil => simp at hq0
        | cons x xs => simpa using hq0
      have HZ2 : Hid ((∀ (m : Nat) (p : Int × List Int), qs[m]? = some p → lF p.1 p.2 = 0) → ∀ (i : Nat) (q : Int × List Int), qs[i]? = some q → q.1 ≠ q0.1 → z = 2) := fun h i q hi hne => by
        rw [hzz, qsF_none h, if_neg (by simp), hhd, if_neg]
        intro hs
        unfold sdB at hs
        have := List.all_eq_true.1 hs q (List.mem_of_getElem? hi)
        exact hne (by simpa using this)
      have HZ0 : Hid ((∀ (m : Nat) (p : Int × List Int), qs[m]? = some p → lF p.1 p.2 = 0) → (∀ (m : Nat) (p : Int × List Int), qs[m]? = some p → p.1 = q0.1) → z = 0) := fun h h2 => by
        rw [hzz, qsF_none h, if_neg (by simp), hhd, if_pos]
        unfold sdB
        rw [List.all_eq_true]
        intro p hp
        obtain ⟨i, hi⟩ := List.getElem?_of_mem hp
        simpa using h2 i p hi
      have HQ0 : Hid (qs[0]? = some q0) := hq0
      have HAT : Hid (∀ i, i < n → ∃ b, qs[i]? = some b) := fun i hi => ⟨_, List.getElem?_eq_getElem (by rw [Hn.out]; exact hi)⟩
      have HLE : Hid (∀ (i : Nat) (q : Int × List Int), qs[i]? = some q → i < n) := fun i b h => by rw [← Hn.out]; exact (List.getElem?_eq_some_iff.1 h).1
      have HCK : Hid (∀ (W : World) (u : Value) (i : Nat) (q : Int × List Int), qs[i]? = some q → Sl W u q.2 → Calls Tryd.prog 36 #[.agg #[.int .i64 q.1, u]] W fun e w' => e = .returned (.int .i64 (lF q.1 q.2 : Int)) ∧ Below W.heap.size W w') := fun W u i q hi hu => Check_any q.1 q.2 u W hu (hll q (List.mem_of_getElem? hi))
      clear hll hzz hhd hq0 Hz
      go_enter Tryd.func22, Tryd.ntmps22
      go_wp2
      go_loopw [4, 5, 18] (fun _ _ iv wr => ∃ i : Nat, iv = .int .i64 (i : Int) ∧ i ≤ n ∧ Hid (∀ (m : Nat) (p : Int × List Int), m < i → qs[m]? = some p → lF p.1 p.2 = 0) ∧ Below w.heap.size w wr) (fun _ _ iv _ => (n - intOf iv).toNat)
      case atStart => exact ⟨0, rfl, by omega, (show ∀ (m : Nat) (p : Int × List Int), m < 0 → _ from fun m c h => by omega), Below.refl _ _⟩
      case round =>
        obtain ⟨i, rfl, hi, HI, hB⟩ := hrel
        by_cases hlt : i < n
        · have hdi : decide ((i : Int) < (n : Int)) = true := by simp; omega
          have hii : (i : Int) < (n : Int) := by omega
          obtain ⟨⟨s, L⟩, hqi⟩ := HAT.out i hlt
          have HQI : Hid (qs[i]? = some (s, L)) := hqi
          obtain ⟨b, off, u, rfl, c1, c2, hSu⟩ := (HV.out wr hB).at hqi rfl
          dsimp only at c1 c2 hSu
          have bx := balloc wr (.cells #[.int .i64 s, u] 49)
          have C := HCK.out (wr.alloc (.cells #[.int .i64 s, u] 49)) u i (s, L) hqi (hSu.below bx)
          dsimp only at C
          obtain ⟨x0, x1⟩ := sq_box2 s u wr
          obtain ⟨ua, uc, rfl, -⟩ := id hSu
          obtain ⟨ul, Hul⟩ : ∃ ul, Hid (L.length = ul) := ⟨_, rfl⟩
          rw [Hul.out] at C x0 x1 c2 bx
          obtain ⟨f, Hf⟩ : ∃ f, Hid (lF s L = f) := ⟨_, rfl⟩
          rw [Hf.out] at C
          clear hSu hqi
          by_cases hf : f = 0
          · subst hf
            have HI2 : Hid (∀ (m : Nat) (p : Int × List Int), m < i + 1 → qs[m]? = some p → lF p.1 p.2 = 0) := fun m p hm hp => by
              by_cases e : m = i
              · subst e
                have := HQI.out.symm.trans hp
                cases this
                exact Hf.out
              · exact HI.out m p (by omega) hp
            clear HI
            go_wp2_with (go_at_call 36; refine C.mono ?_; rintro e1 w1 ⟨rfl, b1⟩; clear C)
            go_roundw
            case rel => exact ⟨i + 1, by go_num, by omega, HI2, Below.next hB (Below.next bx b1)⟩
            case measure => simp [intOf]; omega
          · have hd : ((f : Int) != 0) = true := by simp; omega
            obtain rfl : z = f := by rw [HZ1.out i (s, L) HQI.out HI.out (by dsimp only; rw [Hf.out]; exact hf)]; exact Hf.out
            go_wp2_with (go_at_call 36; refine C.mono ?_; rintro e1 w1 ⟨rfl, b1⟩; clear C)
            go_ret
            exact ⟨rfl, Below.next hB (Below.next bx b1)⟩
        · have hdi : decide ((i : Int) < (n : Int)) = false := by simp; omega
          obtain rfl : i = n := by omega
          have HALL : Hid (∀ (m : Nat) (p : Int × List Int), qs[m]? = some p → lF p.1 p.2 = 0) := fun m p hp => HI.out m p (HLE.out m p hp) hp
          clear HI hlt
          go_wp2
          go_loopw [7, 30] (fun _ jv wr' => ∃ j : Nat, jv = .int .i64 (j : Int) ∧ j ≤ i ∧ Hid (∀ (m : Nat) (p : Int × List Int), m < j → qs[m]? = some p → p.1 = q0.1) ∧ Below w.heap.size w wr') (fun _ jv _ => (i - intOf jv).toNat)
          case atStart => exact ⟨0, rfl, by omega, (show ∀ (m : Nat) (p : Int × List Int), m < 0 → _ from fun m c h => by omega), hB⟩
          case round =>
            clear hB
            obtain ⟨j, rfl, hj, HJ, hB⟩ := hrel
            by_cases hlj : j < i
            · have hdj : decide ((j : Int) < (i : Int)) = true := by simp; omega
              have hji : (j : Int) < (i : Int) := by omega
              have h0i : (0 : Int) < (i : Int) := by omega
              obtain ⟨⟨s, L⟩, hqj⟩ := HAT.out j hlj
              have HQJ : Hid (qs[j]? = some (s, L)) := hqj
              obtain ⟨b, off, u, rfl, c1, c2, hSu⟩ := (HV.out wr hB).at hqj rfl
              obtain ⟨b', off', u', eb, c3, _, _⟩ := (HV.out wr hB).at HQ0.out rfl
              simp only [Option.some.injEq, Addr.mk.injEq, and_true] at eb
              obtain ⟨rfl, rfl⟩ := eb
              dsimp only at c1 c2 hSu
              have bx := balloc wr (.cells #[.int .i64 s, u] 49)
              obtain ⟨x0, x1⟩ := sq_box2 s u wr
              obtain ⟨ua, uc, rfl, -⟩ := id hSu
              obtain ⟨ul, Hul⟩ : ∃ ul, Hid (L.length = ul) := ⟨_, rfl⟩
              rw [Hul.out] at x0 x1 c2 bx
              obtain ⟨s0, Hs0⟩ : ∃ s0, Hid (q0.1 = s0) := ⟨_, rfl⟩
              rw [Nat.zero_mul, Nat.add_zero, Hs0.out] at c3
              have hbl := block_lt_of_cell c3
              have c4 := (bx.cell (p := ⟨b, off, none⟩) hbl).trans c3
              clear hSu hqj c3
              by_cases hs : s = s0
              · have hd : (s != s0) = false := by rw [hs]; simp
                have HJ2 : Hid (∀ (m : Nat) (p : Int × List Int), m < j + 1 → qs[m]? = some p → p.1 = q0.1) := fun m p hm hp => by
                  by_cases e : m = j
                  · subst e
                    have := HQJ.out.symm.trans hp
                    cases this
                    exact hs.trans Hs0.out.symm
                  · exact HJ.out m p (by omega) hp
                clear HJ hs
                go_wp2
                go_quiet (fail)
                go_wp2
                go_roundw
                case rel => exact ⟨j + 1, by go_num, by omega, HJ2, Below.next hB (bdrewN bx _)⟩
                case measure => simp [intOf]; omega
              · have hd : (s != s0) = true := by simpa using hs
                obtain rfl : z = 2 := HZ2.out HALL.out j (s, L) HQJ.out (by dsimp only; rw [Hs0.out]; exact hs)
                clear HJ hs
                go_wp2
                go_quiet (fail)
                go_wp2
                go_ret
                exact ⟨rfl, Below.next hB (bdrewN bx _)⟩
            · have hdj : decide ((j : Int) < (i : Int)) = false := by simp; omega
              obtain rfl : j = i := by omega
              obtain rfl : z = 0 := HZ0.out HALL.out fun m p hp => HJ.out m p (HLE.out m p hp) hp
              go_wp2
              go_ret
              exact ⟨rfl, hB⟩
end Go.Proofs.YtjfjdidibglhaaaDoor.Ar
