/- The walk of meets. -/
import Derived.Test.YtgpkhfpejopacaaDoorF1
import Derived.Test.YtgpkhfpejopacaaDoorDMe
import Derived.Test.YtgpkhfpejopacaaDoorRY
import Derived.Maps.AppendAt
namespace Go.Proofs.YtgpkhfpejopacaaDoor
open Go.RowKit Go.Shelf

attribute [local go_sem] Oper.semAt_some

/-- What lies in these blocks lies there as it lay. -/
def Same (S : Nat → Prop) (A B : World) : Prop := ∀ b, S b → B.heap[b]? = A.heap[b]?
theorem Same.refl (S : Nat → Prop) (A : World) : Same S A A := fun _ _ => rfl
theorem Same.trans {S : Nat → Prop} {A B C : World} (h : Same S A B) (k : Same S B C) : Same S A C := fun b hb => (k b hb).trans (h b hb)
theorem grown_of_below {A B : World} (h : Below A.heap.size A B) : A.grownBy B none := ⟨h.os, h.tape, h.output, h.size, fun k hk _ => h.block k hk⟩
theorem keepsOthers_below {A B : World} (h : Below A.heap.size A B) : KeepsOthers A B := ⟨h.size, fun k _ hk _ => (h.block k (Array.getElem?_eq_some_iff.1 hk).1).trans hk⟩
/-- What an append to the row in the box leaves. -/
theorem appFacts {S : Nat → Prop} {W W5 w2 : World} {ob lo base k m : Nat} {t e : TypeId} {size : Nat} {u v' : Value} {xs ys : List Value} (hte : t ≠ e) (hu : Boxed W ob t u) (hrow : W.ownsRow base e size u k xs) (h5 : Below W.heap.size W W5)
    (hSlt : ∀ b, S b → b < base) (hSo : ¬ S ob) (hsz : base ≤ W.heap.size) (hlo : lo ≤ ob ∧ lo ≤ base) (hown' : w2.ownsRow base e size v' m ys) (hgrow : W5.grownBy w2 u.ownBlock) :
    Boxed w2 ob t u ∧ Boxed (w2.setCell ⟨ob, 0, none⟩ v') ob t v' ∧ (w2.setCell ⟨ob, 0, none⟩ v').ownsRow base e size v' m ys ∧ KeepsOthers W (w2.setCell ⟨ob, 0, none⟩ v') ∧ Same S W (w2.setCell ⟨ob, 0, none⟩ v') ∧ Below lo W (w2.setCell ⟨ob, 0, none⟩ v') := by
  have hu5 := boxBelow hu h5 hu.lt
  have hrow5 : W5.ownsRow base e size u k xs := hrow.kept (grown_of_below h5) (by cases h : u.ownBlock <;> simp)
  have h1 : Boxed w2 ob t u := hu5.kept hgrow (hu.not_row hte hrow)
  have hblk : ∀ b, b < base → b ≠ ob → (w2.setCell ⟨ob, 0, none⟩ v').heap[b]? = W.heap[b]? := by
    intro b hb hne
    refine (heap_setCell_other w2 ⟨ob, 0, none⟩ b v' hne).trans ((hgrow.block b (by have := h5.size; omega) (fun e => ?_)).trans (h5.block b (by omega)))
    rcases hrow.2 with ⟨rfl, _⟩ | ⟨g, cap, cur, rfl, hg, _⟩
    · simp [Value.ownBlock] at e
    · simp [Value.ownBlock] at e
      omega
  refine ⟨h1, h1.set v', hown'.kept (grownBy_setCell' w2 ob v') (.inr (h1.not_row hte hown').symm), ?_, fun b hb => hblk b (hSlt b hb) (fun e => hSo (e ▸ hb)), ?_⟩
  · refine ((keepsOthers_below h5).trans (KeepsOthers.of_grownBy hgrow fun j o ej hj => ?_)).trans (KeepsOthers.setCell _ _ _)
    rcases hrow5.2 with ⟨rfl, _⟩ | ⟨g, cap, cur, rfl, _, hgb, _⟩
    · simp [Value.ownBlock] at ej
    · obtain rfl : g = j := by simpa [Value.ownBlock] using ej
      rw [hgb] at hj; cases hj; rfl
  · refine ⟨hgrow.os.trans h5.os, hgrow.tape.trans h5.tape, hgrow.output.trans h5.output, ?_, fun b hb => hblk b (by omega) (by omega)⟩
    have := hgrow.size
    have := h5.size
    simp
    omega

theorem pc_le_of {x n : Nat} (h : x < 2 ^ n) (hn : n ≤ 64) : pc x ≤ n := by
  have h64 : x < 2 ^ 64 := Nat.lt_of_lt_of_le h (Nat.pow_le_pow_right (by decide) hn)
  exact (rise_pts (pts_rise x) (v := n) fun i hi => by
    rcases Nat.lt_or_ge i n with h1 | h1
    · exact h1
    · have := (pts_mem' h64).1 hi
      rw [testBit_high h h1] at this; cases this).le
/-- What is met up to a pair. -/
def SnM (S : List Nat) (i j acc : Nat) : Prop := ∀ n, acc.testBit n = true ↔ ∃ i' j', j' < i' ∧ (i' < i ∨ (i' = i ∧ j' < j)) ∧ pc (S.getD i' 0 &&& S.getD j' 0) = n
theorem SnM.zero (S : List Nat) : SnM S 0 0 0 := fun n => by
  constructor
  · intro h; simp at h
  · rintro ⟨i, j, h1, h2 | h2, _⟩ <;> omega
theorem SnM.step {S : List Nat} {i j acc : Nat} (h : SnM S i j acc) (hj : j < i) : SnM S i (j + 1) (acc ||| 2 ^ pc (S.getD i 0 &&& S.getD j 0)) := fun n => by
  rw [Nat.testBit_or, Nat.testBit_two_pow, Bool.or_eq_true, decide_eq_true_eq, h n]
  constructor
  · rintro (⟨i', j', h1, h2, h3⟩ | h3)
    · exact ⟨i', j', h1, by omega, h3⟩
    · exact ⟨i, j, hj, .inr ⟨rfl, by omega⟩, h3⟩
  · rintro ⟨i', j', h1, h2, h3⟩
    by_cases e : i' = i ∧ j' = j
    · obtain ⟨rfl, rfl⟩ := e; exact .inr h3
    · exact .inl ⟨i', j', h1, by omega, h3⟩
theorem SnM.row {S : List Nat} {i acc : Nat} (h : SnM S i i acc) : SnM S (i + 1) 0 acc := fun n => by
  rw [h n]
  constructor
  · rintro ⟨i', j', h1, h2, h3⟩
    exact ⟨i', j', h1, by omega, h3⟩
  · rintro ⟨i', j', h1, h2, h3⟩
    exact ⟨i', j', h1, by omega, h3⟩
theorem cutS (a : Option Addr) (n cap k : Nat) (hk : k ≤ n) (hc : n ≤ cap) (_hn : n ≤ 200) (_hcap : cap ≤ maxLen) : ∀ W, (Instr.sliceAt 67 (.slice a n cap) none (some (.int .i64 (k : Int))) none).run Tryd.prog W = .ok (.slice a k cap) W := fun W => by
  have h1 : (k : Int) ≤ (cap : Int) := by omega
  unfold maxLen at _hcap
  go_simp
/-- A row of sets that is read, with room. -/
def SC (w : World) (v : Value) (S : List Nat) : Prop := ∃ a cap, v = .slice a S.length cap ∧ S.length ≤ cap ∧ cap ≤ maxLen ∧ ∀ j, j < S.length → ∃ g off, a = some ⟨g, off, none⟩ ∧ ∀ W, Below w.heap.size w W → W.cell? ⟨g, off + j, none⟩ = some (.int .u64 ((S.getD j 0 : Nat) : Int))
theorem SRow.sc {w : World} {base : Nat} {v : Value} {S : List Nat} (h : SRow w base v S) : SC w v S := by
  have hs := h.ss
  obtain ⟨_, ⟨rfl, hn⟩ | ⟨g, cap, cur, rfl, _, hg, h1, h2, _, ht⟩⟩ := h
  · have : S = [] := List.length_eq_zero_iff.1 hn
    subst this
    exact ⟨none, 0, rfl, Nat.le_refl _, Nat.zero_le _, fun j hj => by simp at hj⟩
  · obtain ⟨a, c, e, hc⟩ := hs
    refine ⟨_, cap, rfl, h1, h2, fun j hj => ?_⟩
    obtain ⟨g', off, e', hcell⟩ := hc j hj
    simp only [Value.slice.injEq] at e
    rw [← e.1] at e'
    exact ⟨g', off, e', fun W hW => (hW.cell (p := ⟨g', off + j, none⟩) (block_lt_of_cell hcell)).trans hcell⟩

set_option maxRecDepth 100000 in
set_option maxHeartbeats 8000000 in
theorem meets_any (S : List Nat) (u : Value) (w : World) (hT : Tab w) (hu : SC w u S) (hl : S.length ≤ 200) (hS : ∀ x ∈ S, x < 2 ^ 40) :
    Calls Tryd.prog 87 #[u] w fun e w' => ∃ (x : Value) (acc : Nat), e = .returned x ∧ acc < 2 ^ 41 ∧ SnM S S.length 0 acc ∧ w'.ownsRow w.heap.size 3 1 x (pts acc).length (((pts acc).map Int.ofNat).map (Value.int .i64)) ∧ Below w.heap.size w w' := by
  refine (callsIn_wide (n := 4)).1 ?_
  obtain ⟨a, cap, rfl, hcap, hcm, hc⟩ := hu
  have HC : Hid (∀ j, j < S.length → ∃ g off, a = some ⟨g, off, none⟩ ∧ w.cell? ⟨g, off + j, none⟩ = some (.int .u64 ((S.getD j 0 : Nat) : Int))) := fun j hj => by
    obtain ⟨g, off, e, h⟩ := hc j hj
    exact ⟨g, off, e, h w (Below.refl _ _)⟩
  have HS : Hid (∀ j, j < S.length → S.getD j 0 < 2 ^ 40) := fun j hj => hS _ (getD_in hj)
  have hcut : Hid (∀ k, k ≤ S.length → ∀ W, (Instr.sliceAt 67 (.slice a S.length cap) none (some (.int .i64 (k : Int))) none).run Tryd.prog W = .ok (.slice a k cap) W) := fun k hk => cutS a S.length cap k hk hcap hl hcm
  have HTab : Hid (Tab w) := hT
  generalize hn : S.length = n at *
  obtain ⟨i3, hi3, hz0, hz1, hz2⟩ := info3
  clear hc hS hT hcap hcm
  refine callsIn_of_wp_marks Tryd.func87 rfl trivial ?_ rfl
  simp only [Tryd.ntmps87, List.size_toArray, List.length_cons, List.length_nil, Nat.reduceAdd, Nat.reduceSub, Array.replicate_succ, Array.replicate_zero, List.push_toArray, List.append_toArray, List.nil_append, List.cons_append]
  gi_wp2
  gi_loopw [3, 12] (fun mv iv wr => ∃ i acc : Nat, iv = .int .i64 (i : Int) ∧ mv = .int .u64 (acc : Int) ∧ i ≤ n ∧ acc < 2 ^ 41 ∧ Hid (SnM S i 0 acc) ∧ wr = w) (fun _ iv _ => (n - intOf iv).toNat)
  case atStart => exact ⟨0, 0, rfl, rfl, by omega, by decide, (SnM.zero S), rfl⟩
  case round =>
    obtain ⟨i, acc, rfl, rfl, hi, hacc, HM, rfl⟩ := hrel
    by_cases hlt : i < n
    · have hd : decide ((i : Int) < (n : Int)) = true := by simp; omega
      have hii : (i : Int) < (n : Int) := by omega
      obtain ⟨g, off, rfl, hci⟩ := HC.out i hlt
      have hai := HS.out i hlt
      have hcu := hcut.out i hi
      obtain ⟨x, Hx⟩ : ∃ x, Hid (S.getD i 0 = x) := ⟨_, rfl⟩
      rw [Hx.out] at hci hai
      gi_wp2
      gi_loopw [3, 21] (fun mv jv wr' => ∃ j acc' : Nat, jv = .int .i64 (j : Int) ∧ mv = .int .u64 (acc' : Int) ∧ j ≤ i ∧ acc' < 2 ^ 41 ∧ Hid (SnM S i j acc') ∧ wr' = wr) (fun _ jv _ => (i - intOf jv).toNat)
      case atStart => exact ⟨0, acc, rfl, rfl, by omega, hacc, HM, rfl⟩
      case round =>
        clear HM hacc hd
        obtain ⟨j, acc', rfl, rfl, hj, hacc', HM', hw'⟩ := hrel
        replace hw' := hw'.symm
        subst hw'
        by_cases hltj : j < i
        · have hdj : decide ((j : Int) < (i : Int)) = true := by simp; omega
          have hji : (j : Int) < (i : Int) := by omega
          obtain ⟨g2, off2, e2, hcj⟩ := HC.out j (by omega)
          obtain ⟨rfl, rfl⟩ : g = g2 ∧ off = off2 := by
            simp only [Option.some.injEq, Addr.mk.injEq] at e2
            exact ⟨e2.1, e2.2.1⟩
          have haj := HS.out j (by omega)
          have hst := HM'.out.step hltj
          rw [Hx.out] at hst
          obtain ⟨y, Hy⟩ : ∃ y, Hid (S.getD j 0 = y) := ⟨_, rfl⟩
          rw [Hy.out] at hcj haj hst
          have hxy : x &&& y < 2 ^ 40 := Nat.lt_of_le_of_lt Nat.and_le_left hai
          have hand : bits .and .u64 (x : Int) (y : Int) = ((x &&& y : Nat) : Int) := andN (by omega) (by omega)
          have hpc : pc (x &&& y) ≤ 40 := pc_le_of hxy (by omega)
          have hZ := size_any (x &&& y) (by omega)
          obtain ⟨p, Hp⟩ : ∃ p, Hid (pc (x &&& y) = p) := ⟨_, rfl⟩
          obtain ⟨z, Hz⟩ : ∃ z, Hid (x &&& y = z) := ⟨_, rfl⟩
          rw [Hp.out] at hpc hst
          have CZ : Hid (∀ W, Calls Tryd.prog 78 #[.int .u64 (z : Int)] W fun e w' => e = .returned (.int .i64 (p : Int)) ∧ w' = W) := fun W => by rw [← Hz.out, ← Hp.out]; exact hZ W
          rw [Hz.out] at hand
          have h2p : 2 ^ p < 2 ^ 41 := pow_lt64 (by omega)
          have hor : bits .or .u64 (acc' : Int) ((2 ^ p : Nat) : Int) = ((acc' ||| 2 ^ p : Nat) : Int) := orN (by omega) (by omega)
          have hor2 : acc' ||| 2 ^ p < 2 ^ 41 := Nat.or_lt_two_pow hacc' h2p
          have CO : Hid (∀ W, Calls Tryd.prog 80 #[.int .i64 (p : Int)] W fun e w' => e = .returned (.int .u64 ((2 ^ p : Nat) : Int)) ∧ w' = W) := fun W => only_any p (by omega) W
          obtain ⟨q, Hq⟩ : ∃ q, Hid (2 ^ p = q) := ⟨_, (rfl : 2 ^ p = 2 ^ p)⟩
          rw [Hq.out] at hor hor2 CO hst
          obtain ⟨r, Hr⟩ : ∃ r, Hid (acc' ||| q = r) := ⟨_, rfl⟩
          rw [Hr.out] at hor hor2 hst
          have HST : Hid (SnM S i (j + 1) r) := hst
          clear hst hZ e2 h2p
          gi_wp2_with (first
            | (refine ⟨trivial, (callsIn_wide.2 (CZ.out _)).mono ?_⟩; rintro e w3 ⟨rfl, hw3⟩; replace hw3 := hw3.symm; subst hw3)
            | (refine ⟨trivial, (callsIn_wide.2 (CO.out _)).mono ?_⟩; rintro e w3 ⟨rfl, hw3⟩; replace hw3 := hw3.symm; subst hw3))
          go_roundw
          case rel => exact ⟨j + 1, r, by go_num, rfl, by omega, hor2, HST, by trivial⟩
          case measure => simp [intOf]; omega
        · have hdj : decide ((j : Int) < (i : Int)) = false := by simp; omega
          obtain rfl : j = i := by omega
          have HM2 : Hid (SnM S (j + 1) 0 acc') := HM'.out.row
          gi_wp2
          go_roundw
          case rel => exact ⟨j + 1, acc', by go_num, rfl, by omega, hacc', HM2, by trivial⟩
          case measure => simp [intOf]; omega
    · have hd : decide ((i : Int) < (n : Int)) = false := by simp; omega
      obtain rfl : i = n := by omega
      have hT := HTab.out
      have f8 : Boxed (wr.alloc (.cells #[.slice none 0 0] 22)) wr.heap.size 22 (.slice none 0 0) := Boxed.new wr 22 _
      have b1 := balloc wr (.cells #[.slice none 0 0] 22)
      obtain ⟨w1, Hw1⟩ : ∃ w1, Hid (w1 = wr.alloc (.cells #[.slice none 0 0] 22)) := ⟨_, rfl⟩
      have CP := points_any acc w1
      have s1 : w1.heap.size = wr.heap.size + 1 := by rw [Hw1.out]; simp
      rw [← Hw1.out] at f8 b1
      have HS1 : Hid (w1.heap.size = wr.heap.size + 1) := s1
      clear s1 hcut
      gi_wp2_with (refine ⟨trivial, ?_⟩; rw [← Hw1.out]; refine (callsIn_wide.2 CP).mono ?_; rintro e w2 ⟨rfl, hw2⟩)
      have s1 := HS1.out
      have b2 := balloc w1 (.cells #[.int .u64 (acc : Int)] 72)
      have f9 := Boxed.new w1 72 (.int .u64 (acc : Int))
      have s2 : (w1.alloc (.cells #[.int .u64 (acc : Int)] 72)).heap.size = w1.heap.size + 1 := by simp
      rw [← hw2] at b2 f9 s2
      have hT2 : Tab w2 := (hT.next b1).next b2
      have hposn : 1 < wr.heap.size := hT.pos
      rw [← hw2]
      clear hw2 CP
      refine wpIn_runs2 (ys := pts acc) (enc := encI) (Kp := KT) (Ab := AbN) (gf := 92) (lb := #[.pointer (some ⟨w1.heap.size, 0, none⟩)]) rfl (enters_of Tryd.func92 (by kernel_rfl) rfl)
        (points_runs acc _ w1.heap.size w2 (by omega) hT2 f9) (fun _ => rfl) (fun h k => k.trans h) ?hKb (fun _ _ _ _ _ h => h.elim)
        (fun i B => (∃ uu, Boxed B wr.heap.size 22 uu ∧ B.ownsRow w2.heap.size 3 1 uu i ((((pts acc).take i).map Int.ofNat).map (Value.int .i64))) ∧ Below wr.heap.size wr B ∧ w2.heap.size ≤ B.heap.size) (fun _ _ => False) ?hIp (fun _ _ _ _ h => h.elim) (fun _ _ _ _ _ _ _ h => h.elim) (fun _ _ _ _ h => h.elim) ?h0
        (fun x => { tmps := #[.slice a i cap, undef, .slice none 0 0, .int .u64 (acc : Int), u4, u5, undef, u7, .pointer (some ⟨wr.heap.size, 0, none⟩), .int .i64 (x : Int), .slice a i cap, .int .i64 (i : Int), .int .i64 (i : Int), .bool false, u14, u15, u16, u17, u18, u19, u20, u21, u22, u23, u24, u25, u26, u27, u28, u29, u30, u31, u32, u33, .int .u64 (acc : Int), .func (.func 92) #[] #[.pointer (some ⟨w1.heap.size, 0, none⟩)], .int .i64 (x : Int), undef, undef, undef, undef, undef], defers := [] }) ?assign ?body ?done (fun _ _ h => h.elim)
      case hKb =>
        intro B o hB
        exact World.putObj_heap_other (by omega)
      case hIp =>
        rintro i B o o' ⟨⟨uu, g1, g2⟩, g3, g4⟩ ho hc
        exact ⟨⟨uu, boxAt g1 (World.putObj_heap_other (by omega)), ownsRow_putObj g2 _ ho hc⟩, g3.trans (below_put _ _ (by omega)), by simpa [World.putObj] using g4⟩
      case h0 =>
        intro V hb
        exact ⟨⟨_, boxBelow (boxBelow f8 b2 (by omega)) hb (by omega), World.ownsRow_nil _ _ _ _⟩, (b1.trans (b2.mono (by omega))).trans (hb.mono (by omega)), hb.size⟩
      case assign =>
        clear s1 s2
        intro l x W K _ hK
        unfold encI
        gi_wp2
        exact hK
      case body =>
        rintro i' x B hx ⟨⟨uu, g1, g2⟩, g3, g4⟩ hD hrec
        have hlen : i' < (pts acc).length := (List.getElem?_eq_some_iff.1 hx).1
        have h64 : (pts acc).length ≤ 64 := pc_le acc
        have htk : (((pts acc).take (i' + 1)).map Int.ofNat).map (Value.int .i64) = (((pts acc).take i').map Int.ofNat).map (Value.int .i64) ++ [.int .i64 (x : Int)] := by
          rw [List.take_add_one, hx]; simp
        have HTK : Hid ((((pts acc).take (i' + 1)).map Int.ofNat).map (Value.int .i64) = (((pts acc).take i').map Int.ofNat).map (Value.int .i64) ++ [.int .i64 (x : Int)]) := htk
        have q8 := g1.cell
        obtain ⟨ua, uc, eu⟩ := own_formE g2
        have hu := g1
        have hrow := g2
        subst eu
        have r8 := (g1.alloc (.cells #[.int .i64 (x : Int)] 3)).cell
        have hb0 := balloc B (.cells #[.int .i64 (x : Int)] 3)
        have HREC : Hid (∀ b, b = w2.heap.size ∨ b = w2.heap.size + 1 → ∃ o, B.heap[b]? = some o ∧ o.isCells = false) := hrec
        clear hrec htk hx
        gi_wp2_with (gi_at_builtin; refine wpListIn_append_own _ rfl _ _ 22 rfl w2.heap.size 3 i3 (.int .i64 0) 1 8 und22 hi3 hz0 hz1 hz2 rfl (by decide) _ _ _ rfl (hrow.alloc _) ⟨B.heap.size, 0, none⟩ 1 1 [.int .i64 (x : Int)] rfl rfl (cell_one_new _ _ _) (by simp [Value.oneCell']) (by unfold maxLen; omega) (by omega) (by simp; omega) ?_; intro v' w5 hown' hgrow _; obtain ⟨g', cap', rfl⟩ := ownsRow_succ hown'; obtain ⟨k1, k2, k3, k4, _, k6⟩ := appFacts (S := fun b => False) (lo := wr.heap.size) (by decide) hu hrow hb0 (fun _ h => h.elim) (fun h => h) g4 ⟨Nat.le_refl _, by omega⟩ hown' hgrow; have k1c := k1.cell; have k1f := k1.frozen)
        refine ⟨⟨?_, ?_⟩, ?_, ⟨_, k2, by rw [HTK.out]; exact k3⟩, g3.trans k6, Nat.le_trans g4 k6.size⟩
        · obtain ⟨o, h1, h2⟩ := HREC.out _ (.inl rfl)
          rw [k4.same _ _ h1 h2, h1]
        · obtain ⟨o, h1, h2⟩ := HREC.out _ (.inr rfl)
          rw [k4.same _ _ h1 h2, h1]
        · exact k6.block 1 hposn
      case done =>
        rintro B ⟨⟨uu, g1, g2⟩, g3, g4⟩ hK
        have q8 := g1.cell
        have HM3 : Hid (SnM S i 0 acc) := HM
        rw [List.take_of_length_le (Nat.le_refl _)] at g2
        clear HM
        gi_wp2
        refine ⟨by simp, .inl ⟨_, _, rfl, run_takeDeferred hK, ?_⟩⟩
        have bP := below_put (n := w2.heap.size) B (.deferred none) (l := w2.heap.size) (Nat.le_refl _)
        refine ⟨_, results_tmp rfl _ _ _, uu, acc, rfl, hacc, HM3.out, own_low (ownsRow_putObj g2 _ hK rfl) (by omega), g3.trans (bP.mono (by omega))⟩

end Go.Proofs.YtgpkhfpejopacaaDoor
