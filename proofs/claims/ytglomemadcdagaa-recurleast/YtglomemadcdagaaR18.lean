/- The walk of LeastOf: lengths are tried from 0 on, by equations. -/
import Derived.Test.YtglomemadcdagaaR34b
namespace Go.Proofs.Ytglomemadcdagaa
open Go.RowKit

theorem und57 : Try.prog.underlying 57 = some (.slice 22) := by kernel_rfl
theorem info22 : ∃ i, Try.prog.info? 22 = some i ∧ i.zero = some (.slice none 0 0) ∧ i.size = 1 ∧ i.bytes = 24 := by
  have h1 : (Try.prog.info? 22).map (·.zero) = some (some (.slice none 0 0)) := by kernel_rfl
  have h2 : (Try.prog.info? 22).map (·.size) = some 1 := by kernel_rfl
  have h3 : (Try.prog.info? 22).map (·.bytes) = some 24 := by kernel_rfl
  cases h : Try.prog.info? 22 with
  | none => rw [h] at h1; cases h1
  | some i =>
    rw [h] at h1 h2 h3
    exact ⟨i, rfl, Option.some.inj h1, Option.some.inj h2, Option.some.inj h3⟩

theorem SolIs.none {p : Int} {A : Nat → Nat → Int} {m z : Nat} (hp : 2 ≤ p) (h0 : m = 0 → z = 1) (h1 : 0 < m → z = 2) : SolIs p A 0 m z [] := by
  have ht : ∀ x, Sol p A 0 m x := fun x i hi => by omega
  by_cases hm : m = 0
  · exact .inr (.inr ⟨h0 hm, by omega, by simp [hm], fun i hi => by omega, ⟨fun _ => 0, ht _⟩, fun x _ i hi => by omega⟩)
  · exact .inr (.inl ⟨h1 (by omega), rfl, ⟨fun _ => 0, ht _⟩, fun _ => 1, ⟨0, by omega, fun h => by have h2 : p ≤ 1 := Int.le_of_dvd (by decide) h; omega⟩, fun x _ => ht _⟩)

/-- Rows as they are being gathered. -/
def RowsB (w : World) (base : Nat) (v : Value) (r n : Nat) (A : Nat → Nat → Int) : Prop :=
  ∃ B cp : Nat → Nat, w.ownsRow base 22 1 v r ((List.range r).map fun i => Value.slice (some ⟨B i, 0, none⟩) n (cp i)) ∧ (∀ i, i < r → Own w (B i) n (A i)) ∧ (∀ i j, i < r → j < r → B i = B j → i = j) ∧ (∀ i, i < r → base ≤ B i ∧ v.ownBlock ≠ some (B i)) ∧ (r = 0 → v = .slice none 0 0)
theorem RowsB.nil (w : World) (base n : Nat) (A : Nat → Nat → Int) : RowsB w base (.slice none 0 0) 0 n A := ⟨fun _ => 0, fun _ => 0, World.ownsRow_nil _ _ _ _, fun i h => by omega, fun i j h => by omega, fun i h => by omega, fun _ => rfl⟩
theorem RowsB.below {w w' : World} {base r n : Nat} {v : Value} {A : Nat → Nat → Int} (h : RowsB w base v r n A) (hb : Below w.heap.size w w') : RowsB w' base v r n A := by
  obtain ⟨B, cp, h1, h2, h3, h4, h5⟩ := h
  refine ⟨B, cp, h1.kept (row := none) ⟨hb.os, hb.tape, hb.output, hb.size, fun k hk _ => hb.block k hk⟩ (by cases v.ownBlock <;> simp), fun i hi => (h2 i hi).below hb, h3, h4, h5⟩
theorem RowsB.mat {w : World} {base r n : Nat} {v : Value} {A : Nat → Nat → Int} (h : RowsB w base v r n A) (hr : 0 < r) : ∃ g cap B cp, v = .slice (some ⟨g, 0, none⟩) r cap ∧ base ≤ g ∧ Mat w base g r n B cp A := by
  obtain ⟨B, cp, h1, h2, h3, h4, h5⟩ := h
  obtain ⟨_, ⟨_, hn0⟩ | ⟨g, cap, cur, rfl, hb, hg, _, _, _, ht⟩⟩ := h1
  · omega
  · refine ⟨g, cap, B, cp, rfl, hb, ⟨⟨cur, hg, fun i hi => ?_⟩, h2, h3, fun i hi => ⟨(h4 i hi).1, fun e => (h4 i hi).2 (by simp [Value.ownBlock, e])⟩⟩⟩
    have h6 : (cur.toList.take (r * 1))[i]? = ((List.range r).map fun i => Value.slice (some ⟨B i, 0, none⟩) n (cp i))[i]? := by rw [ht]
    rw [List.getElem?_take, if_pos (by omega)] at h6
    rw [← Array.getElem?_toList, h6]
    simp [hi]
/-- One row more. -/
theorem RowsB.more {wr wa w2 : World} {base r n g cap : Nat} {v v' : Value} {A : Nat → Nat → Int} {B cp : Nat → Nat} (h1 : wr.ownsRow base 22 1 v r ((List.range r).map fun i => Value.slice (some ⟨B i, 0, none⟩) n (cp i))) (h2 : ∀ i, i < r → Own wr (B i) n (A i))
    (h3 : ∀ i j, i < r → j < r → B i = B j → i = j) (h4 : ∀ i, i < r → base ≤ B i ∧ v.ownBlock ≠ some (B i)) (hba : Below wr.heap.size wr wa) (hO : Own wa g n (A r)) (hg : wr.heap.size ≤ g) (hbase : base ≤ wr.heap.size)
    (hown : w2.ownsRow base 22 1 v' (r + 1) (((List.range r).map fun i => Value.slice (some ⟨B i, 0, none⟩) n (cp i)) ++ [.slice (some ⟨g, 0, none⟩) n cap])) (hgr : wa.grownBy w2 v.ownBlock) : RowsB w2 base v' (r + 1) n A := by
  have hlt : ∀ i, i < r → B i < wr.heap.size := fun i hi => (h2 i hi).lt
  have hrow : ∀ i, i < r + 1 → Own w2 (if i = r then g else B i) n (A i) := by
    intro i hi
    by_cases e : i = r
    · subst e
      rw [if_pos rfl]
      obtain ⟨cur, k1, k2⟩ := id hO
      exact ⟨cur, (hgr.block g hO.lt (fun e => by have := (h1.lt g e.symm).2; omega)).trans k1, k2⟩
    · rw [if_neg e]
      obtain ⟨cur, k1, k2⟩ := (h2 i (by omega)).below hba
      exact ⟨cur, (hgr.block (B i) (by have := hlt i (by omega); have := hba.size; omega) (fun e => (h4 i (by omega)).2 e.symm)).trans k1, k2⟩
  refine ⟨fun i => if i = r then g else B i, fun i => if i = r then cap else cp i, ?_, hrow, fun i j hi hj e => ?_, fun i hi => ⟨?_, ?_⟩, fun h => by omega⟩
  · have e : ((List.range (r + 1)).map fun i => Value.slice (some ⟨if i = r then g else B i, 0, none⟩) n (if i = r then cap else cp i)) = ((List.range r).map fun i => Value.slice (some ⟨B i, 0, none⟩) n (cp i)) ++ [.slice (some ⟨g, 0, none⟩) n cap] := by
      rw [List.range_succ, List.map_append, List.map_cons, List.map_nil, if_pos rfl, if_pos rfl]
      congr 1
      refine List.map_congr_left (fun i hi => ?_)
      have : i ≠ r := by have := List.mem_range.1 hi; omega
      rw [if_neg this, if_neg this]
    rw [e]; exact hown
  · have e' : (if i = r then g else B i) = (if j = r then g else B j) := e
    by_cases e1 : i = r
    · by_cases e2 : j = r
      · omega
      · rw [if_pos e1, if_neg e2] at e'
        have := hlt j (by omega); omega
    · by_cases e2 : j = r
      · rw [if_neg e1, if_pos e2] at e'
        have := hlt i (by omega); omega
      · rw [if_neg e1, if_neg e2] at e'
        exact h3 i j (by omega) (by omega) e'
  · show base ≤ if i = r then g else B i
    split
    · omega
    · exact (h4 i (by omega)).1
  · intro e
    obtain ⟨cur, k1, _⟩ := hrow i hi
    obtain ⟨_, ⟨rfl, hn0⟩ | ⟨g', cap', cur', rfl, _, hg', _⟩⟩ := hown
    · omega
    · have e2 : g' = if i = r then g else B i := by simpa [Value.ownBlock] using e
      rw [← e2, hg'] at k1
      simp at k1

theorem own_below {w w' : World} {base n : Nat} {e : TypeId} {size : Nat} {v : Value} {xs : List Value} (h : w.ownsRow base e size v n xs) (hb : Below w.heap.size w w') : w'.ownsRow base e size v n xs :=
  h.kept (row := none) ⟨hb.os, hb.tape, hb.output, hb.size, fun k hk _ => hb.block k hk⟩ (by cases v.ownBlock <;> simp)
theorem row_of {f : Nat → Int} {l n : Nat} (hn : l ≤ n) (j : Nat) (hj : j < l + 1) : ((List.range l).map (fun x => f (n - 1 - x)) ++ [f n]).getD j 0 = rowsM f l (n - l) j := by
  unfold rowsM
  rw [show l + (n - l) = n by omega]
  by_cases h : j < l
  · rw [if_pos h, List.getD_eq_getElem?_getD, List.getElem?_append_left (by simpa using h)]
    simp [h]
  · rw [if_neg h, List.getD_eq_getElem?_getD, List.getElem?_append_right (by simp; omega)]
    simp [show j - l = 0 by omega]
theorem rowsM_rng {p : Int} {S : List Int} {l N : Nat} (hN : S.length = N) (hb : belB p S = true) : ∀ i j, i < N - l → j ≤ l → 0 ≤ rowsM (fun j => S.getD j 0) l i j ∧ rowsM (fun j => S.getD j 0) l i j < p := by
  intro i j hi hj
  have h := belB_iff.1 hb
  unfold rowsM
  split
  · exact h _ (by omega)
  · exact h _ (by omega)

set_option maxRecDepth 100000 in
set_option maxHeartbeats 8000000 in
theorem LeastOf_ok (P : Nat) (S T : List Int) (u : Value) (w : World) (hs : smB (P : Int) = true) (hu : Sl w u S) (hbS : belB P S = true) (hS : S.length ≤ 60) (hT : LeastTaps P S T) :
    Calls Try.prog 18 #[.int .i64 (P : Int), u] w fun e w' => ∃ (v : Value) (R : List Int), e = .returned (.tuple #[.int .i64 (T.length : Int), v, .int .i64 0]) ∧ Sl w' v R ∧ (2 * T.length ≤ S.length → R = T) ∧ (S.length < 2 * T.length → R = []) ∧ Below w.heap.size w w' := by
  have hpb := smB_bd hs
  have hp : 2 ≤ P ∧ P ≤ 7 := by omega
  obtain ⟨i3, hi, hz0, hz1, hz2⟩ := info3
  obtain ⟨i22, hi', hz0', hz1', hz2'⟩ := info22
  have C1 := fun A => small_any (P : Int) A
  rw [hs] at C1
  have C2 := below_any S u P w hu (by unfold maxLen; omega)
  rw [hbS] at C2
  obtain ⟨ua, uc, rfl, hU⟩ := id hu
  obtain ⟨N, Hn⟩ : ∃ n : Nat, Hid (S.length = n) := ⟨_, rfl⟩
  have hn : N ≤ 60 := by rw [← Hn.out]; exact hS
  obtain ⟨L, HL⟩ : ∃ n : Nat, Hid (T.length = n) := ⟨_, rfl⟩
  have hLN : L ≤ N := by rw [← Hn.out, ← HL.out]; exact hT.2.1
  obtain ⟨f, Hf⟩ : ∃ f : Nat → Int, Hid (f = fun j => S.getD j 0) := ⟨_, rfl⟩
  have HU : Hid (∀ j, j < N → ∃ b off, ua = some ⟨b, off, none⟩ ∧ w.cell? ⟨b, off + j, none⟩ = some (.int .i64 (f j))) := by
    show ∀ j, j < N → _
    rw [Hf.out, ← Hn.out]; exact hU
  have HR : ∀ l, Hid (∀ i j, i < N - l → j ≤ l → 0 ≤ rowsM f l i j ∧ rowsM f l i j < P) := fun l => by rw [Hf.out]; exact rowsM_rng Hn.out hbS
  have HT : Hid (LeastTaps P S T) := hT
  have hd : decide ((60 : Int) < (S.length : Int)) = false := by simp; omega
  rw [Hn.out] at C2 hd ⊢
  clear hU hu hpb hT hS
  go_enter Try.func18, Try.ntmps18
  go_wp2_with (first
    | (go_at_call 24; refine (C1 _).mono ?_; rintro e w1 ⟨rfl, hw⟩; replace hw := hw.symm; subst hw)
    | (go_at_call 25; refine C2.mono ?_; rintro e w1 ⟨rfl, hw⟩; replace hw := hw.symm; subst hw))
  go_loopw [8] (fun v wr => ∃ l : Nat, v = .int .i64 l ∧ l ≤ L ∧ Below w.heap.size w wr) (fun v _ => (L - intOf v).toNat)
  case atStart => exact ⟨0, rfl, by omega, Below.refl _ _⟩
  case round =>
    obtain ⟨l, rfl, hl, hB⟩ := hrel
    have hlN : (l : Int) ≤ N := by omega
    go_wp2
    go_loopw [9, 10] (fun vr vn wr' => ∃ n : Nat, vn = .int .i64 n ∧ l ≤ n ∧ n ≤ N ∧ RowsB wr' w.heap.size vr (n - l) (l + 1) (rowsM f l) ∧ Below w.heap.size w wr') (fun _ vn _ => (N - intOf vn).toNat)
    case atStart =>
      refine ⟨l, rfl, Nat.le_refl _, by omega, ?_, hB⟩
      rw [Nat.sub_self]; exact RowsB.nil _ _ _ _
    case round =>
      clear hB
      obtain ⟨n, rfl, hn1, hn2, hRB, hB⟩ := hrel
      by_cases hnN : n < N
      · have hnNi : (n : Int) < N := by omega
        obtain ⟨b, off, rfl, hcn⟩ := HU.out n hnN
        have HU2 : Hid (∀ j, j < N → w.cell? ⟨b, off + j, none⟩ = some (.int .i64 (f j))) := by
          intro j hj
          obtain ⟨b', o', e, hc⟩ := HU.out j hj
          simp only [Option.some.injEq, Addr.mk.injEq, and_true] at e
          obtain ⟨rfl, rfl⟩ := e
          exact hc
        have hbw : b < w.heap.size := by simpa using block_lt_of_cell hcn
        have hbs := hB.size
        go_wp2
        go_loopw [11, 12] (fun vr vj wr' => ∃ j : Nat, vj = .int .i64 j ∧ j ≤ l ∧ wr'.ownsRow wr.heap.size 3 1 vr j (((List.range j).map (fun x => f (n - 1 - x))).map (Value.int .i64)) ∧ Below wr.heap.size wr wr') (fun _ vj _ => (l - intOf vj).toNat)
        case atStart => exact ⟨0, rfl, by omega, World.ownsRow_nil _ _ _ _, Below.refl _ _⟩
        case round =>
          obtain ⟨j, rfl, hj, hown, hB3⟩ := hrel
          have hbs3 := hB3.size
          by_cases hjl : j < l
          · have hji : (j : Int) < l := by omega
            obtain ⟨q, Hq⟩ : ∃ q : Nat, Hid (q = n - 1 - j) := ⟨_, rfl⟩
            have hqN : q < N := by rw [Hq.out]; omega
            have hqe : (n : Int) - 1 - (j : Int) = (q : Int) := by rw [Hq.out]; omega
            have hcq := ((hB.trans (hB3.mono hbs)).cell (p := ⟨b, off + q, none⟩) hbw).trans (HU2.out q hqN)
            obtain ⟨d, Hd⟩ : ∃ d : Int, Hid (d = f q) := ⟨_, rfl⟩
            rw [← Hd.out] at hcq
            go_wp2_with (first
              | (at_builtin; refine wpList_append_own _ rfl _ _ 22 rfl _ 3 i3 (.int .i64 0) 1 8 und22 hi hz0 hz1 hz2 rfl (by decide) _ _ _ rfl (hown.alloc _) ⟨wr.heap.size, 0, none⟩ 1 1 [.int .i64 d] rfl rfl ?c1 ?c2 ?c3 ?c4 ?c5 ?_)
              | go_in)
            case c1 =>
              intro j u hj
              match j, hj with
              | 0, hj => simp at hj; subst hj; simp [Addr.add]
            case c2 => intro u hu; simp at hu; subst hu; rfl
            case c3 => unfold maxLen; omega
            case c4 => omega
            case c5 => simp; omega
            intro v' w6 hown6 hgrow6 _
            have hB6 := (hB3.alloc hbs3 _).grown hgrow6 (by simp; omega) (fun k hk => (hown.lt k hk).1)
            go_wp2
            go_roundw
            case rel =>
              refine ⟨j + 1, by go_num, by omega, ?_, hB6⟩
              rw [List.range_succ, List.map_append, List.map_append, List.map_cons, List.map_nil, List.map_cons, List.map_nil, ← Hq.out, ← Hd.out]
              first | exact hown6 | (rw [List.map_map]; exact hown6)
            case measure => simp [intOf]; omega
          · obtain rfl : j = l := by omega
            have hjd : decide ((j : Int) < (j : Int)) = false := by simp
            have hcn3 := ((hB.trans (hB3.mono hbs)).cell (p := ⟨b, off + n, none⟩) hbw).trans hcn
            obtain ⟨d, Hd⟩ : ∃ d : Int, Hid (d = f n) := ⟨_, rfl⟩
            rw [← Hd.out] at hcn3
            obtain ⟨Br, cpr, h1, h2, h3, h4, _⟩ := hRB
            go_wp2_with (first
              | (at_builtin; refine wpList_append_own _ rfl _ _ 22 rfl _ 3 i3 (.int .i64 0) 1 8 und22 hi hz0 hz1 hz2 rfl (by decide) _ _ _ rfl (hown.alloc _) ⟨wr.heap.size, 0, none⟩ 1 1 [.int .i64 d] rfl rfl ?c1 ?c2 ?c3 ?c4 ?c5 ?_)
              | go_in)
            case c1 =>
              intro j u hj
              match j, hj with
              | 0, hj => simp at hj; subst hj; simp [Addr.add]
            case c2 => intro u hu; simp at hu; subst hu; rfl
            case c3 => unfold maxLen; omega
            case c4 => omega
            case c5 => simp; omega
            intro v' w6 hown6 hgrow6 _
            have hB6 := (hB3.alloc hbs3 _).grown hgrow6 (by simp; omega) (fun k hk => (hown.lt k hk).1)
            obtain ⟨g, cap, rfl, hgg, hO6⟩ := Own.of (l := (List.range j).map (fun x => f (n - 1 - x)) ++ [f n]) (by rw [← Hd.out]; simpa using hown6) (by omega)
            have hO7 : Own w6 g (j + 1) (rowsM f j (n - j)) := hO6.congr (fun x hx => row_of hn1 x hx)
            clear hown6 hgrow6 hown hO6
            have hbs6 := hB6.size
            have hB7 := hB.trans (hB6.mono hbs)
            have hbs7 := hB7.size
            go_wp2_with (first
              | (at_builtin; refine wpList_append_own _ rfl _ _ 57 rfl _ 22 i22 (.slice none 0 0) 1 24 und57 hi' hz0' hz1' hz2' rfl (by decide) _ _ _ rfl ((own_below h1 hB6).alloc _) ⟨w6.heap.size, 0, none⟩ 1 1 [.slice (some ⟨g, 0, none⟩) (j + 1) cap] rfl rfl ?c1 ?c2 ?c3 ?c4 ?c5 ?_)
              | go_in)
            case c1 =>
              intro j u hj
              match j, hj with
              | 0, hj => simp at hj; subst hj; simp [Addr.add]
            case c2 => intro u hu; simp at hu; subst hu; rfl
            case c3 => unfold maxLen; omega
            case c4 => omega
            case c5 => simp; omega
            intro v' w8 hown8 hgrow8 _
            have hB8 : Below w.heap.size w w8 := (hB7.alloc hbs7 _).grown hgrow8 (by simp; omega) (fun k hk => (h1.lt k hk).1)
            have hRB8 := RowsB.more h1 h2 h3 h4 (hB6.alloc hbs6 _) (hO7.below (balloc w6 _)) hgg hbs hown8 hgrow8
            rw [show n - j + 1 = n + 1 - j by omega] at hRB8
            go_wp2
            go_roundw
            case rel => exact ⟨n + 1, by go_num, by omega, by omega, hRB8, hB8⟩
            case measure => simp [intOf]; omega
      · obtain rfl : n = N := by omega
        have hnd : decide ((n : Int) < (n : Int)) = false := by simp
        have hbs := hB.size
        have C : Calls Try.prog 34 #[u9, .int .i64 (l : Int), .int .i64 (P : Int)] wr fun e w' => ∃ (z : Nat) (v : Value) (q : List Int), e = .returned (.tuple #[.int .i64 (z : Int), v]) ∧ Sl w' v q ∧ SolIs P (rowsM f l) (n - l) l z q ∧ Below w.heap.size wr w' := by
          by_cases h0 : n - l = 0
          · rw [h0] at hRB ⊢
            obtain ⟨_, _, _, _, _, _, h5⟩ := hRB
            rw [h5 rfl]
            refine (solved_none l P wr (by omega)).mono ?_
            rintro e w' ⟨z, rfl, h6, h7, rfl⟩
            exact ⟨z, _, [], rfl, Sl.nil _, SolIs.none (by omega) h6 h7, Below.refl _ _⟩
          · obtain ⟨g, cap, Bm, cpm, e, hgb, hMat⟩ := hRB.mat (by omega)
            rw [e]
            exact solved_any P l (n - l) w.heap.size g cap Bm cpm (rowsM f l) wr hs (by omega) (by omega) (by omega) hMat (HR l).out hgb
        clear hRB
        go_wp2_with fail
        refine C.mono ?_
        rintro e w2 ⟨z, v, q, rfl, hsl, hsol, hb2⟩
        have hB2 := hB.trans hb2
        have hm1 := HT.out.2.2.1
        have hm2 := HT.out.2.2.2
        rw [← Hf.out, Hn.out] at hm1 hm2
        by_cases hlL : l < L
        · obtain rfl : z = 0 := short_none hm2 (by rw [HL.out]; exact hlL) hsol
          clear hsol hm1 hm2
          go_wp2
          go_roundw
          case rel => exact ⟨l + 1, by go_num, by omega, hB2⟩
          case measure => simp [intOf]; omega
        · obtain rfl : l = L := by omega
          have hj := just_some (z := z) (u := q) hs HT.out.1 hm1 hm2 (by rw [HL.out]; exact hsol)
          rw [HL.out] at hj
          have HJ : Hid ((2 * l ≤ n → z = 1 ∧ q = T) ∧ (n < 2 * l → z = 2)) := hj
          have hz : z = 1 ∨ z = 2 := by omega
          clear hj hsol hm1 hm2
          have hzd : ((z : Int) == 0) = false := by simp; omega
          by_cases hl0 : l = 0
          · subst hl0
            go_wp2
            exact bodyPost_ret (v := .tuple #[.int .i64 (0 : Nat), .slice none 0 0, .int .i64 0]) (by simp [results, Try.results18, go_sem]) rfl ⟨_, [], by rw [HL.out], Sl.nil _, fun _ => (List.length_eq_zero_iff.1 HL.out).symm, fun _ => rfl, hB2⟩
          · have hld : ((l : Int) == 0) = false := by simp; omega
            by_cases h2 : 2 * l ≤ n
            · obtain ⟨rfl, rfl⟩ := HJ.out.1 h2
              obtain ⟨va, vc, rfl, _⟩ := id hsl
              have hsl' := hsl
              rw [HL.out] at hsl' ⊢
              go_wp2
              exact bodyPost_ret (v := .tuple #[.int .i64 (l : Int), .slice va l vc, .int .i64 0]) (by simp [results, Try.results18, go_sem]) rfl ⟨_, q, by rw [HL.out], hsl', fun _ => rfl, fun h => by first | omega | (rw [HL.out] at h; omega), hB2⟩
            · obtain rfl : z = 2 := HJ.out.2 (by omega)
              go_wp2
              exact bodyPost_ret (v := .tuple #[.int .i64 (l : Int), .slice none 0 0, .int .i64 0]) (by simp [results, Try.results18, go_sem]) rfl ⟨_, [], by rw [HL.out], Sl.nil _, fun h => by first | omega | (rw [HL.out] at h; omega), fun _ => rfl, hB2⟩

end Go.Proofs.Ytglomemadcdagaa
