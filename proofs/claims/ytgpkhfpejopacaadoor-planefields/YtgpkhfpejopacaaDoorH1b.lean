/- The walk of Dual, where there is one. -/
import Derived.Test.YtgpkhfpejopacaaDoorF2
import Derived.Test.YtgpkhfpejopacaaDoorDCo
import Derived.Test.YtgpkhfpejopacaaDoorE9
import Derived.Test.YtgpkhfpejopacaaDoorLL
import Derived.Test.YtgpkhfpejopacaaDoorDDu
import Derived.Test.YtgpkhfpejopacaaDoorF3
/- The walk of among: what blocks have of the points that are kept, numbered anew. -/
namespace Go.Proofs.YtgpkhfpejopacaaDoor
open Go.RowKit Go.Shelf

attribute [local go_sem] Oper.semAt_some

/-- What lies in cells lies there as it lay. -/
def CK (A B : World) : Prop := A.heap.size ≤ B.heap.size ∧ ∀ (b : Nat) (o : Obj), A.heap[b]? = some o → o.isCells = true → B.heap[b]? = some o
theorem CK.refl (A : World) : CK A A := ⟨Nat.le_refl _, fun _ _ h _ => h⟩
theorem CK.trans {A B C : World} (h : CK A B) (k : CK B C) : CK A C := ⟨Nat.le_trans h.1 k.1, fun b o h1 h2 => k.2 b o (h.2 b o h1 h2) h2⟩
theorem CK.put {A : World} {l : Nat} {o : Obj} (h : A.heap[l]? = some o) (hc : o.isCells = false) (o' : Obj) : CK A (A.putObj l o') :=
  ⟨by simp [World.putObj], fun b q h1 h2 => (World.putObj_heap_other (fun e => by subst e; rw [h] at h1; cases h1; rw [hc] at h2; cases h2)).trans h1⟩
theorem CK.row {A B : World} (k : CK A B) {base : Nat} {e : TypeId} {v : Value} {n : Nat} {xs : List Value} (h : A.ownsRow base e 1 v n xs) : B.ownsRow base e 1 v n xs := by
  obtain ⟨h3, h4 | ⟨g, cap, cur, h5, h6, h7, h8⟩⟩ := h
  · exact ⟨h3, .inl h4⟩
  · exact ⟨h3, .inr ⟨g, cap, cur, h5, h6, k.2 g _ h7 rfl, h8⟩⟩
theorem CK.or {A B : World} (k : CK A B) {base : Nat} {v : Value} {ls : List (List Nat)} (h : OR A base v ls) : OR B base v ls := by
  obtain ⟨vals, h1, h2⟩ := h
  exact ⟨vals, k.row h1, fun i u l hu hl => k.row (h2 i u l hu hl)⟩
/-- All marks are taken over, at the function's end; what it hands back is told behind them. -/
theorem marks_leave2 {F : Fence} {n : Nat} {P : Program} {fn : Func} {tmps : Array Value} {R : Ending → World → Prop} {m : Nat} : ∀ (rs : List Nat) (A : World), rs.Nodup → (∀ r ∈ rs, m ≤ r ∧ A.heap[r]? = some (.deferred (some []))) → (∀ B, Below m A B → CK A B → ∃ v, (results fn tmps).run P B = .ok v B ∧ R (.returned v) B) → LeavesInM F n P fn tmps R (rs.map markOf) .returning A := by
  intro rs
  induction rs with
  | nil =>
    intro A _ _ hR
    exact hR A (Below.refl _ _) (CK.refl _)
  | cons r rs ih =>
    intro A hn hm hR
    obtain ⟨h1, h2⟩ := hm r List.mem_cons_self
    obtain ⟨h3, h4⟩ := List.nodup_cons.1 hn
    refine ⟨by simp, .inl ⟨r, _, rfl, run_takeDeferred h2, ih _ h4 (fun q hq => ?_) fun B hb hc => hR B ((below_put A _ h1).trans hb) ((CK.put h2 rfl _).trans hc)⟩⟩
    refine ⟨(hm q (List.mem_cons_of_mem _ hq)).1, (World.putObj_heap_other (show q ≠ r from fun e => h3 (e ▸ hq))).trans (hm q (List.mem_cons_of_mem _ hq)).2⟩
/-- An append onto a row of the call's own, as one step of a region that draws its order, inside a fence. -/
theorem stepIn_append_own {F : Fence} {n : Nat} {P : Program} {ops : Array Oper} {o : Oper} {a : Act} {w : World} {K : Act → World → Prop} {Q : Exit → Act → World → Prop} {E : Prop}
    (hg : o.guard = none) (s x : Operand) (t : TypeId) (hop : o.op = Op.call { callee := Callee.builtin Builtin.append, args := #[s, x], argTypes := #[t, t] })
    (base : Nat) (e : TypeId) (i : TypeInfo) (z : Value) (size bytes : Nat) (h1 : P.underlying t = some (.slice e)) (h2 : P.info? e = some i) (h3 : i.zero = some z) (h4 : i.size = size) (h5 : i.bytes = bytes) (h6 : z.cells.size = size) (h7 : 0 < size)
    (v : Value) (k : Nat) (xs : List Value) (hs : a.eval s = v) (hown : w.ownsRow base e size v k xs) (ad : Addr) (m c : Nat) (news : List Value) (hx : a.eval x = .slice (some ad) m c) (hn : news.length = m * size)
    (hc : ∀ j u, news[j]? = some u → w.cell? (ad.add j) = some u) (h1c : ∀ u ∈ news, u.oneCell' = true) (b1 : k + m ≤ maxLen) (b2 : (k + m) * bytes ≤ 140737488355328) (b3 : base ≤ w.heap.size)
    (hK : ∀ v' w', w'.ownsRow base e size v' (k + m) (xs ++ news) → w.grownBy w' v.ownBlock → K (a.put o.dst v') w') :
    if Region.wanted o (yielded ops a.tmps) = true then Oper.wpIn F n P o a w K Q else E := by
  have hw : Region.wanted o (yielded ops a.tmps) = true := by simp [Region.wanted, hg]
  rw [if_pos hw]
  obtain ⟨v', w', hrun, r1, r2, _⟩ := run_append_own (P := P) w base t o.type e i z size bytes h1 h2 h3 h4 h5 h6 h7 v k xs hown ad m c news hn hc h1c b1 b2 b3
  unfold Oper.wpIn
  refine ⟨?_, ?_⟩
  · simp [Oper.about, hop, resolve, Target.leads, Sem.run_pure]
  · rw [Oper.semAt_plain F _ _ (by rw [hop]; intro c hc'; cases hc')]
    simp [execOp, hop, resolve, invoke, builtin, hs, hx, hrun, Result.andThen]
    exact hK _ _ r1 r2

/-- Points of z, by their numbers among those kept. -/
def amL (kept z : Nat) : List Nat := (pts z).map fun x => pc (kept &&& (2 ^ x - 1))
def rows (kept z : Nat) : List Int := (amL kept z).map Int.ofNat
/-- What among holds. -/
structure AmI (w : World) (kept p : Nat) (dv : Value) (rs : List Nat) (ls : List (List Nat)) (A : World) : Prop where
  k : Boxed A w.heap.size 72 (.int .u64 (kept : Int))
  r : A.heap[w.heap.size + 1]? = some (.cells #[.int .i64 0, .slice none 0 0] 29 (0, 0))
  d : A.heap[w.heap.size + 1 + 1]? = some (.cells #[.int .i64 (p : Int), dv] 29 (0, 0))
  o : OR A (w.heap.size + 3) dv ls
  nd : rs.Nodup
  mks : ∀ q ∈ rs, w.heap.size + 3 ≤ q ∧ A.heap[q]? = some (.deferred (some []))
  bw : Below w.heap.size w A
theorem AmI.size {w : World} {kept p : Nat} {dv : Value} {rs : List Nat} {ls : List (List Nat)} {A : World} (h : AmI w kept p dv rs ls A) : w.heap.size + 3 ≤ A.heap.size := (Array.getElem?_eq_some_iff.1 h.d).1
theorem AmI.below {w : World} {kept p : Nat} {dv : Value} {rs : List Nat} {ls : List (List Nat)} {A B : World} (h : AmI w kept p dv rs ls A) (b : Below A.heap.size A B) : AmI w kept p dv rs ls B :=
  ⟨boxBelow h.k b h.k.lt, (b.block _ (Array.getElem?_eq_some_iff.1 h.r).1).trans h.r, (b.block _ (Array.getElem?_eq_some_iff.1 h.d).1).trans h.d, h.o.below b, h.nd, fun q hq => ⟨(h.mks q hq).1, (b.block _ (Array.getElem?_eq_some_iff.1 (h.mks q hq).2).1).trans (h.mks q hq).2⟩, h.bw.trans (b.mono (by have := h.size; omega))⟩

set_option maxRecDepth 100000 in
set_option maxHeartbeats 16000000 in
theorem among_any (kept : Nat) (S : List Nat) (u : Value) (w : World) (hT : Tab w) (hu : SC w u S) (hl : S.length ≤ 200) (hS : ∀ x ∈ S, x < 2 ^ 40) (hk : kept < 2 ^ 40) :
    Calls Tryd.prog 50 #[.int .u64 (kept : Int), u] w fun e w' => ∃ x, e = .returned (.agg #[.int .i64 (pc kept : Int), x]) ∧ OR w' (w.heap.size + 3) x (S.map fun y => amL kept (y &&& kept)) ∧ Below w.heap.size w w' := by
  refine (callsIn_wide (n := 4)).1 ?_
  obtain ⟨a, cap, rfl, hcap, hcm, hc⟩ := hu
  have HC : Hid (∀ j, j < S.length → ∃ g off, a = some ⟨g, off, none⟩ ∧ ∀ W, Below w.heap.size w W → W.cell? ⟨g, off + j, none⟩ = some (.int .u64 ((S.getD j 0 : Nat) : Int))) := hc
  have HS : Hid (∀ j, j < S.length → S.getD j 0 < 2 ^ 40) := fun j hj => hS _ (getD_in hj)
  have HTab : Hid (Tab w) := hT
  have HTS : Hid (∀ j, j < S.length → ((S.take (j + 1)).map fun y => amL kept (y &&& kept)) = ((S.take j).map fun y => amL kept (y &&& kept)) ++ [amL kept (S.getD j 0 &&& kept)]) := fun j hj => by
    rw [List.take_succ_eq_append_getElem hj, List.map_append, List.getD_eq_getElem?_getD, List.getElem?_eq_getElem hj]; rfl
  have HALL : Hid ((S.take S.length).map (fun y => amL kept (y &&& kept)) = S.map fun y => amL kept (y &&& kept)) := by show _ = _; rw [List.take_of_length_le (Nat.le_refl _)]
  generalize hn : S.length = n at *
  obtain ⟨i3, hi3, hz0, hz1, hz2⟩ := info3
  obtain ⟨i36, ji3, jz0, jz1, jz2⟩ := info36
  have CP0 : Hid (∀ W, Calls Tryd.prog 78 #[.int .u64 (kept : Int)] W fun e w' => e = .returned (.int .i64 (pc kept : Int)) ∧ w' = W) := fun W => size_any kept (by omega) W
  obtain ⟨p, Hp⟩ : ∃ p, Hid (pc kept = p) := ⟨_, rfl⟩
  rw [Hp.out] at CP0 ⊢
  have hp64 : p ≤ 64 := by rw [← Hp.out]; exact pc_le _
  have A0 : AmI w kept p (.slice none 0 0) [] [] (((w.alloc (.cells #[.int .u64 (kept : Int)] 72)).alloc (.cells #[.int .i64 0, .slice none 0 0] 29)).alloc (.cells #[.int .i64 (p : Int), .slice none 0 0] 29)) := by
    refine ⟨((Boxed.new w 72 _).alloc _).alloc _, ?_, ?_, OR.nil _ _, List.nodup_nil, fun q hq => by simp at hq, ((balloc w _).alloc (by simp) _).alloc (by simp; omega) _⟩
    · have h := heap_alloc_new (w.alloc (.cells #[.int .u64 (kept : Int)] 72)) (.cells #[.int .i64 0, .slice none 0 0] 29)
      rw [World.size_alloc] at h
      exact (Below.heap_alloc _ _ _ (by simp)).trans h
    · have h := heap_alloc_new ((w.alloc (.cells #[.int .u64 (kept : Int)] 72)).alloc (.cells #[.int .i64 0, .slice none 0 0] 29)) (.cells #[.int .i64 (p : Int), .slice none 0 0] 29)
      rw [World.size_alloc, World.size_alloc] at h
      exact h
  have HA0 : Hid (AmI w kept p (.slice none 0 0) [] [] (((w.alloc (.cells #[.int .u64 (kept : Int)] 72)).alloc (.cells #[.int .i64 0, .slice none 0 0] 29)).alloc (.cells #[.int .i64 (p : Int), .slice none 0 0] 29))) := A0
  have x0 : ((w.alloc (.cells #[.int .u64 (kept : Int)] 72)).alloc (.cells #[.int .i64 0, .slice none 0 0] 29)).cell? ⟨w.heap.size, 0, none⟩ = some (.int .u64 (kept : Int)) := ((Boxed.new w 72 (.int .u64 (kept : Int))).alloc _).cell
  have HK : Hid (kept < 2 ^ 40) := hk
  clear hc hS hT hcap hcm A0 hk
  refine callsIn_of_wp_marks Tryd.func50 rfl trivial ?_ rfl
  simp only [Tryd.ntmps50, List.size_toArray, List.length_cons, List.length_nil, Nat.reduceAdd, Nat.reduceSub, Array.replicate_succ, Array.replicate_zero, List.push_toArray, List.append_toArray, List.nil_append, List.cons_append]
  gi_wp2_with (refine ⟨trivial, (callsIn_wide.2 (CP0.out _)).mono ?_⟩; rintro e w3 ⟨rfl, hw3⟩; subst hw3)
  clear x0
  refine wpIn_loop (fun act A => ∃ (u7 u8 u9 u16 u17 u18 u19 u20 u21 u22 u23 u24 u25 u26 u27 u28 u29 u30 u31 u32 u33 u34 u35 u36 u37 u38 : Value) (i : Nat) (dv : Value) (rs : List Nat), act = { tmps := #[.int .u64 (kept : Int), .slice a n cap, .pointer (some ⟨w.heap.size, 0, none⟩), undef, .pointer (some ⟨w.heap.size + 1, 0, none⟩), .pointer (some ⟨w.heap.size + 1 + 1, 0, none⟩), undef, u7, u8, u9, .int .u64 (kept : Int), .int .i64 (p : Int), .agg #[.int .i64 (p : Int), .slice none 0 0], .slice a n cap, .int .i64 (n : Int), .int .i64 (i : Int), u16, u17, u18, u19, u20, u21, u22, u23, u24, u25, u26, u27, u28, u29, u30, u31, u32, u33, u34, u35, u36, u37, u38, undef], defers := rs.map markOf } ∧ i ≤ n ∧ AmI w kept p dv rs ((S.take i).map fun y => amL kept (y &&& kept)) A) (fun act A => n - (intOf (act.tmps.getD 15 undef)).toNat) ?start ?round
  case start => exact ⟨undef, undef, undef, undef, undef, undef, undef, undef, undef, undef, undef, undef, undef, undef, undef, undef, undef, undef, undef, undef, undef, undef, undef, undef, undef, undef, 0, .slice none 0 0, [], rfl, by omega, HA0.out⟩
  case round =>
    clear HA0
    rintro act A ⟨u7, u8, u9, u16, u17, u18, u19, u20, u21, u22, u23, u24, u25, u26, u27, u28, u29, u30, u31, u32, u33, u34, u35, u36, u37, u38, i, dv, rs, rfl, hi, hA⟩
    have hpos : 1 < w.heap.size := HTab.out.pos
    have hsz := hA.size
    by_cases hlt : i < n
    · have hd : decide ((i : Int) < (n : Int)) = true := by simp; omega
      have hii : (i : Int) < (n : Int) := by omega
      obtain ⟨g, off, rfl, hci0⟩ := HC.out i hlt
      have hci := hci0 A hA.bw
      have hyS := HS.out i hlt
      have hts := HTS.out i hlt
      obtain ⟨y, Hy⟩ : ∃ y, Hid (S.getD i 0 = y) := ⟨_, rfl⟩
      rw [Hy.out] at hci hyS hts
      have hk := HK.out
      have hand : bits .and .u64 (y : Int) (kept : Int) = ((y &&& kept : Nat) : Int) := andN (by omega) (by omega)
      have hz40 : y &&& kept < 2 ^ 40 := Nat.lt_of_le_of_lt Nat.and_le_left hyS
      obtain ⟨z, Hz⟩ : ∃ z, Hid (y &&& kept = z) := ⟨_, rfl⟩
      rw [Hz.out] at hand hz40 hts
      have HTI : Hid ((S.take (i + 1)).map (fun y => amL kept (y &&& kept)) = ((S.take i).map fun y => amL kept (y &&& kept)) ++ [amL kept z]) := hts
      have b1 := balloc A (.cells #[.slice none 0 0] 22)
      have f8 : Boxed (A.alloc (.cells #[.slice none 0 0] 22)) A.heap.size 22 (.slice none 0 0) := Boxed.new A 22 _
      have kk := ((hA.k).alloc (.cells #[.slice none 0 0] 22)).cell
      obtain ⟨w1, Hw1⟩ : ∃ w1, Hid (w1 = A.alloc (.cells #[.slice none 0 0] 22)) := ⟨_, rfl⟩
      have CP := points_any z w1
      have s1 : w1.heap.size = A.heap.size + 1 := by rw [Hw1.out]; simp
      rw [← Hw1.out] at f8 b1
      rw [s1] at CP
      have HS1 : Hid (w1.heap.size = A.heap.size + 1) := s1
      have HA : Hid (AmI w kept p dv rs ((S.take i).map fun y => amL kept (y &&& kept)) A) := hA
      clear s1 hts hci0 hk hA
      gi_wp2_with (refine ⟨trivial, ?_⟩; rw [← Hw1.out]; refine (callsIn_wide.2 CP).mono ?_; rintro e w2 ⟨rfl, hw2⟩)
      have s1 := HS1.out
      have b2 := balloc w1 (.cells #[.int .u64 (z : Int)] 72)
      have f9 := Boxed.new w1 72 (.int .u64 (z : Int))
      have s2 : (w1.alloc (.cells #[.int .u64 (z : Int)] 72)).heap.size = w1.heap.size + 1 := by simp
      rw [← hw2] at b2 f9 s2
      rw [s1] at f9
      have hAb : Below A.heap.size A w2 := b1.trans (b2.mono (by omega))
      have hT2 : Tab w2 := (HTab.out.next HA.out.bw).next hAb
      rw [← hw2]
      clear hw2 CP
      refine wpIn_runs2 (ys := pts z) (enc := encI) (Kp := KT) (Ab := AbN) (gf := 92) (lb := #[.pointer (some ⟨A.heap.size + 1, 0, none⟩)]) rfl (enters_of Tryd.func92 (by kernel_rfl) rfl)
        (points_runs z _ (A.heap.size + 1) w2 (by omega) hT2 f9) (fun _ => rfl) (fun h k => k.trans h) ?hKb (fun _ _ _ _ _ h => h.elim)
        (fun i B => (∃ uu, Boxed B A.heap.size 22 uu ∧ B.ownsRow w2.heap.size 3 1 uu i (((rows kept z).take i).map (Value.int .i64))) ∧ Below A.heap.size A B ∧ w2.heap.size ≤ B.heap.size) (fun _ _ => False) ?hIp (fun _ _ _ _ h => h.elim) (fun _ _ _ _ _ _ _ h => h.elim) (fun _ _ _ _ h => h.elim) ?h0
        (fun x => { tmps := #[.int .u64 (kept : Int), .slice (some ⟨g, off, none⟩) n cap, .pointer (some ⟨w.heap.size, 0, none⟩), undef, .pointer (some ⟨w.heap.size + 1, 0, none⟩), .pointer (some ⟨w.heap.size + 1 + 1, 0, none⟩), undef, .int .u64 (y : Int), .pointer (some ⟨A.heap.size, 0, none⟩), .int .i64 (x : Int), .int .u64 (kept : Int), .int .i64 (p : Int), .agg #[.int .i64 (p : Int), .slice none 0 0], .slice (some ⟨g, off, none⟩) n cap, .int .i64 (n : Int), .int .i64 (i : Int), .bool true, .pointer (some ⟨g, off + i, none⟩), .int .u64 (y : Int), .int .u64 (y : Int), .int .u64 (kept : Int), .int .u64 (z : Int), .func (.func 92) #[] #[.pointer (some ⟨A.heap.size + 1, 0, none⟩)], .int .i64 (x : Int), u24, u25, u26, u27, u28, u29, u30, u31, u32, u33, u34, u35, u36, u37, u38, undef], defers := [] }) ?assign ?body ?done (fun _ _ h => h.elim)
      case hKb =>
        intro B o hB
        exact World.putObj_heap_other (by omega)
      case hIp =>
        rintro i B o o' ⟨⟨uu, g1, g2⟩, g3, g4⟩ ho hc
        exact ⟨⟨uu, boxAt g1 (World.putObj_heap_other (by omega)), ownsRow_putObj g2 _ ho hc⟩, g3.trans (below_put _ _ (by omega)), by simpa [World.putObj] using g4⟩
      case h0 =>
        intro V hb
        exact ⟨⟨_, boxBelow (boxBelow f8 b2 (by omega)) hb (by omega), World.ownsRow_nil _ _ _ _⟩, hAb.trans (hb.mono (by omega)), hb.size⟩
      case assign =>
        clear s1 s2
        intro l x W K _ hK
        unfold encI
        gi_wp2
        exact hK
      case body =>
        rintro i' x B hx ⟨⟨uu, g1, g2⟩, g3, g4⟩ hD hrec
        have hlen : i' < (pts z).length := (List.getElem?_eq_some_iff.1 hx).1
        have h64 : (pts z).length ≤ 64 := pc_le z
        have hx64 : x < 40 := by
          have hm := pts_mem.1 (List.mem_of_getElem? hx)
          rcases Nat.lt_or_ge x 40 with h | h
          · exact h
          · rw [testBit_high hz40 h] at hm; cases hm.2
        have hk := HK.out
        have hlow : 2 ^ x - 1 < 2 ^ 64 := by have := pow_lt64 (n := x) (m := 64) (by omega); omega
        have hand2 : bits .and .u64 (kept : Int) ((2 ^ x - 1 : Nat) : Int) = ((kept &&& (2 ^ x - 1) : Nat) : Int) := andN (by omega) hlow
        have CB : Hid (∀ W, Calls Tryd.prog 51 #[.int .i64 (x : Int)] W fun e w' => e = .returned (.int .u64 ((2 ^ x - 1 : Nat) : Int)) ∧ w' = W) := fun W => below_any x (by omega) W
        have hq264 : kept &&& (2 ^ x - 1) < 2 ^ 64 := Nat.lt_of_le_of_lt Nat.and_le_left (show kept < 2 ^ 64 by omega)
        have CZ0 := size_any (kept &&& (2 ^ x - 1)) hq264
        have hr64 := pc_le (kept &&& (2 ^ x - 1))
        have htk : ((rows kept z).take (i' + 1)).map (Value.int .i64) = ((rows kept z).take i').map (Value.int .i64) ++ [.int .i64 ((pc (kept &&& (2 ^ x - 1)) : Nat) : Int)] := by
          unfold rows amL
          rw [List.take_add_one]
          simp [hx]
        obtain ⟨q1, Hq1⟩ : ∃ q1, Hid (2 ^ x - 1 = q1) := ⟨_, (rfl : 2 ^ x - 1 = 2 ^ x - 1)⟩
        rw [Hq1.out] at hand2 CB CZ0 hr64 htk
        obtain ⟨r, Hr⟩ : ∃ r, Hid (pc (kept &&& q1) = r) := ⟨_, rfl⟩
        rw [Hr.out] at CZ0 hr64 htk
        obtain ⟨q2, Hq2⟩ : ∃ q2, Hid (kept &&& q1 = q2) := ⟨_, rfl⟩
        rw [Hq2.out] at hand2 CZ0
        have CZ : Hid (∀ W, Calls Tryd.prog 78 #[.int .u64 (q2 : Int)] W fun e w' => e = .returned (.int .i64 (r : Int)) ∧ w' = W) := CZ0
        have HTK : Hid (((rows kept z).take (i' + 1)).map (Value.int .i64) = ((rows kept z).take i').map (Value.int .i64) ++ [.int .i64 (r : Int)]) := htk
        have q8 := g1.cell
        have kB := HA.out.below g3
        have qk := kB.k.cell
        have qka := (kB.k.alloc (.cells #[.int .i64 (r : Int)] 3)).cell
        obtain ⟨ua, uc, eu⟩ := own_formE g2
        have hu := g1
        have hrow := g2
        subst eu
        have r8 := (g1.alloc (.cells #[.int .i64 (r : Int)] 3)).cell
        have hbd : Below B.heap.size B (B.alloc (.cells #[.int .i64 (r : Int)] 3)).drew := bdrewN (balloc B _) 1
        have hrowd : ((B.alloc (.cells #[.int .i64 (r : Int)] 3)).drew).ownsRow w2.heap.size 3 1 (.slice ua i' uc) i' (((rows kept z).take i').map (Value.int .i64)) := hrow.alloc _
        have hnews : ∀ j u, ([Value.int .i64 (r : Int)] : List Value)[j]? = some u → ((B.alloc (.cells #[.int .i64 (r : Int)] 3)).drew).cell? ((⟨B.heap.size, 0, none⟩ : Addr).add j) = some u := by
          intro j u hj
          match j, hj with
          | 0, hj =>
            simp at hj
            subst hj
            exact (Boxed.new B 3 (.int .i64 (r : Int))).cell
        have HREC : Hid (∀ b, b = w2.heap.size ∨ b = w2.heap.size + 1 → ∃ o, B.heap[b]? = some o ∧ o.isCells = false) := hrec
        have hle2 : A.heap.size ≤ w2.heap.size := by omega
        have hposA : 0 < A.heap.size := by omega
        clear hrec htk hx CZ0 hlow hq264 hk s1 s2
        gi_wp2
        refine wpIn_region_any (by kernel_rfl) (wpAnyIn_round (w2.heap.size + 1) (fun i o h c e => by revert h; revert i; intro i h; have hm := Array.mem_of_getElem? h; simp at hm; rcases hm with rfl | rfl | rfl | rfl | rfl | rfl | rfl | rfl | rfl <;> cases e) _ _ _ _ rfl ?_)
        try (change wpAnyIn _ _ _ _ _ _ _ _ _ (World.drew _))
        refine wpAnyIn_take (i := 2) (v := .int .i64 (x : Int)) rfl rfl (by kernel_rfl) (by kernel_rfl) (by kernel_rfl) (by intro _ _ _ h; first | exact h | cases h.1) ⟨Or.inl ⟨by rfl, fun w => by go_simp⟩, fun _ => rfl⟩ ?_
        refine wpAnyIn_ready (rs := [0, 1, 3]) (by kernel_rfl) (by simp) (AllReadyIn.cons rfl (fun K hK => ?_) (AllReadyIn.cons rfl (fun K hK => ?_) (AllReadyIn.cons rfl (fun K hK => ?_) AllReadyIn.nil)))
        · go_simp
          refine hK _ _ ?_
          clear hK K
          refine wpAnyIn_ready (rs := [1, 3]) (by kernel_rfl) (by simp) (AllReadyIn.cons rfl (fun K hK => ?_) (AllReadyIn.cons rfl (fun K hK => ?_) AllReadyIn.nil))
          · go_simp
            refine hK _ _ ?_
            clear hK K
            refine wpAnyIn_ready (rs := [3]) (by kernel_rfl) (by simp) (AllReadyIn.cons rfl (fun K hK => ?_) AllReadyIn.nil)
            go_simp
            refine ⟨trivial, (callsIn_wide.2 (CB.out _)).mono ?_⟩
            rintro e C0 ⟨rfl, hC0⟩
            subst hC0
            refine hK _ _ ?_
            clear hK K
            refine wpAnyIn_take (i := 4) (v := .int .u64 (q2 : Int)) rfl rfl (by kernel_rfl) (by kernel_rfl) (by kernel_rfl) (by intro _ _ _ h; first | exact h | cases h.1) ⟨Or.inl ⟨by rfl, fun w => by go_simp⟩, fun _ => rfl⟩ ?_
            refine wpAnyIn_ready (rs := [5]) (by kernel_rfl) (by simp) (AllReadyIn.cons rfl (fun K hK => ?_) AllReadyIn.nil)
            go_simp
            refine ⟨trivial, (callsIn_wide.2 (CZ.out _)).mono ?_⟩
            rintro e C0 ⟨rfl, hC0⟩
            subst hC0
            refine hK _ _ ?_
            clear hK K
            refine wpAnyIn_ready (rs := [6]) (by kernel_rfl) (by simp) (AllReadyIn.cons rfl (fun K hK => ?_) AllReadyIn.nil)
            go_simp
            refine hK _ _ ?_
            clear hK K
            refine wpAnyIn_ready (rs := [7]) (by kernel_rfl) (by simp) (AllReadyIn.cons rfl (fun K hK => ?_) AllReadyIn.nil)
            refine stepIn_append_own rfl (.tmp 24) (.tmp 30) 22 rfl w2.heap.size 3 i3 (.int .i64 0) 1 8 und22 hi3 hz0 hz1 hz2 rfl (by decide) (.slice ua i' uc) i' (((rows kept z).take i').map (Value.int .i64)) (by simp [Act.eval]) hrowd ⟨B.heap.size, 0, none⟩ 1 1 [.int .i64 (r : Int)] (by simp [Act.eval]) rfl hnews (by simp [Value.oneCell']) (by unfold maxLen; omega) (by omega) (by show w2.heap.size ≤ ((B.alloc (.cells #[.int .i64 (r : Int)] 3)).drew).heap.size; simp; omega) ?_
            intro v' w5 hown' hgrow
            obtain ⟨g', cap', rfl⟩ := ownsRow_succ hown'
            obtain ⟨k1, k2, k3, k4, _, k6⟩ := appFacts (S := fun _ => False) (lo := A.heap.size) (by decide) hu hrow hbd (fun _ h => h.elim) (fun h => h) g4 ⟨Nat.le_refl _, by omega⟩ hown' hgrow
            have k1c := k1.cell
            have k1f := k1.frozen
            refine hK _ _ ?_
            clear hK K
            refine wpAnyIn_ready (rs := [8]) (by kernel_rfl) (by simp) (AllReadyIn.cons rfl (fun K hK => ?_) AllReadyIn.nil)
            go_simp
            refine hK _ _ ?_
            clear hK K
            refine wpAnyIn_done (by kernel_rfl) ?_ _
            gi_wp2
            refine ⟨⟨?_, ?_⟩, k6.block 1 (by omega), ⟨_, k2, by rw [HTK.out]; exact k3⟩, g3.trans k6, Nat.le_trans g4 k6.size⟩
            · obtain ⟨o, h1, h2⟩ := HREC.out _ (.inl rfl)
              rw [k4.same _ _ h1 h2, h1]
            · obtain ⟨o, h1, h2⟩ := HREC.out _ (.inr rfl)
              rw [k4.same _ _ h1 h2, h1]
          · go_simp
            refine ⟨trivial, (callsIn_wide.2 (CB.out _)).mono ?_⟩
            rintro e C0 ⟨rfl, hC0⟩
            subst hC0
            refine hK _ _ ?_
            clear hK K
            refine wpAnyIn_ready (rs := [1]) (by kernel_rfl) (by simp) (AllReadyIn.cons rfl (fun K hK => ?_) AllReadyIn.nil)
            go_simp
            refine hK _ _ ?_
            clear hK K
            refine wpAnyIn_take (i := 4) (v := .int .u64 (q2 : Int)) rfl rfl (by kernel_rfl) (by kernel_rfl) (by kernel_rfl) (by intro _ _ _ h; first | exact h | cases h.1) ⟨Or.inl ⟨by rfl, fun w => by go_simp⟩, fun _ => rfl⟩ ?_
            refine wpAnyIn_ready (rs := [5]) (by kernel_rfl) (by simp) (AllReadyIn.cons rfl (fun K hK => ?_) AllReadyIn.nil)
            go_simp
            refine ⟨trivial, (callsIn_wide.2 (CZ.out _)).mono ?_⟩
            rintro e C0 ⟨rfl, hC0⟩
            subst hC0
            refine hK _ _ ?_
            clear hK K
            refine wpAnyIn_ready (rs := [6]) (by kernel_rfl) (by simp) (AllReadyIn.cons rfl (fun K hK => ?_) AllReadyIn.nil)
            go_simp
            refine hK _ _ ?_
            clear hK K
            refine wpAnyIn_ready (rs := [7]) (by kernel_rfl) (by simp) (AllReadyIn.cons rfl (fun K hK => ?_) AllReadyIn.nil)
            refine stepIn_append_own rfl (.tmp 24) (.tmp 30) 22 rfl w2.heap.size 3 i3 (.int .i64 0) 1 8 und22 hi3 hz0 hz1 hz2 rfl (by decide) (.slice ua i' uc) i' (((rows kept z).take i').map (Value.int .i64)) (by simp [Act.eval]) hrowd ⟨B.heap.size, 0, none⟩ 1 1 [.int .i64 (r : Int)] (by simp [Act.eval]) rfl hnews (by simp [Value.oneCell']) (by unfold maxLen; omega) (by omega) (by show w2.heap.size ≤ ((B.alloc (.cells #[.int .i64 (r : Int)] 3)).drew).heap.size; simp; omega) ?_
            intro v' w5 hown' hgrow
            obtain ⟨g', cap', rfl⟩ := ownsRow_succ hown'
            obtain ⟨k1, k2, k3, k4, _, k6⟩ := appFacts (S := fun _ => False) (lo := A.heap.size) (by decide) hu hrow hbd (fun _ h => h.elim) (fun h => h) g4 ⟨Nat.le_refl _, by omega⟩ hown' hgrow
            have k1c := k1.cell
            have k1f := k1.frozen
            refine hK _ _ ?_
            clear hK K
            refine wpAnyIn_ready (rs := [8]) (by kernel_rfl) (by simp) (AllReadyIn.cons rfl (fun K hK => ?_) AllReadyIn.nil)
            go_simp
            refine hK _ _ ?_
            clear hK K
            refine wpAnyIn_done (by kernel_rfl) ?_ _
            gi_wp2
            refine ⟨⟨?_, ?_⟩, k6.block 1 (by omega), ⟨_, k2, by rw [HTK.out]; exact k3⟩, g3.trans k6, Nat.le_trans g4 k6.size⟩
            · obtain ⟨o, h1, h2⟩ := HREC.out _ (.inl rfl)
              rw [k4.same _ _ h1 h2, h1]
            · obtain ⟨o, h1, h2⟩ := HREC.out _ (.inr rfl)
              rw [k4.same _ _ h1 h2, h1]
        · go_simp
          refine hK _ _ ?_
          clear hK K
          refine wpAnyIn_ready (rs := [0, 3]) (by kernel_rfl) (by simp) (AllReadyIn.cons rfl (fun K hK => ?_) (AllReadyIn.cons rfl (fun K hK => ?_) AllReadyIn.nil))
          · go_simp
            refine hK _ _ ?_
            clear hK K
            refine wpAnyIn_ready (rs := [3]) (by kernel_rfl) (by simp) (AllReadyIn.cons rfl (fun K hK => ?_) AllReadyIn.nil)
            go_simp
            refine ⟨trivial, (callsIn_wide.2 (CB.out _)).mono ?_⟩
            rintro e C0 ⟨rfl, hC0⟩
            subst hC0
            refine hK _ _ ?_
            clear hK K
            refine wpAnyIn_take (i := 4) (v := .int .u64 (q2 : Int)) rfl rfl (by kernel_rfl) (by kernel_rfl) (by kernel_rfl) (by intro _ _ _ h; first | exact h | cases h.1) ⟨Or.inl ⟨by rfl, fun w => by go_simp⟩, fun _ => rfl⟩ ?_
            refine wpAnyIn_ready (rs := [5]) (by kernel_rfl) (by simp) (AllReadyIn.cons rfl (fun K hK => ?_) AllReadyIn.nil)
            go_simp
            refine ⟨trivial, (callsIn_wide.2 (CZ.out _)).mono ?_⟩
            rintro e C0 ⟨rfl, hC0⟩
            subst hC0
            refine hK _ _ ?_
            clear hK K
            refine wpAnyIn_ready (rs := [6]) (by kernel_rfl) (by simp) (AllReadyIn.cons rfl (fun K hK => ?_) AllReadyIn.nil)
            go_simp
            refine hK _ _ ?_
            clear hK K
            refine wpAnyIn_ready (rs := [7]) (by kernel_rfl) (by simp) (AllReadyIn.cons rfl (fun K hK => ?_) AllReadyIn.nil)
            refine stepIn_append_own rfl (.tmp 24) (.tmp 30) 22 rfl w2.heap.size 3 i3 (.int .i64 0) 1 8 und22 hi3 hz0 hz1 hz2 rfl (by decide) (.slice ua i' uc) i' (((rows kept z).take i').map (Value.int .i64)) (by simp [Act.eval]) hrowd ⟨B.heap.size, 0, none⟩ 1 1 [.int .i64 (r : Int)] (by simp [Act.eval]) rfl hnews (by simp [Value.oneCell']) (by unfold maxLen; omega) (by omega) (by show w2.heap.size ≤ ((B.alloc (.cells #[.int .i64 (r : Int)] 3)).drew).heap.size; simp; omega) ?_
            intro v' w5 hown' hgrow
            obtain ⟨g', cap', rfl⟩ := ownsRow_succ hown'
            obtain ⟨k1, k2, k3, k4, _, k6⟩ := appFacts (S := fun _ => False) (lo := A.heap.size) (by decide) hu hrow hbd (fun _ h => h.elim) (fun h => h) g4 ⟨Nat.le_refl _, by omega⟩ hown' hgrow
            have k1c := k1.cell
            have k1f := k1.frozen
            refine hK _ _ ?_
            clear hK K
            refine wpAnyIn_ready (rs := [8]) (by kernel_rfl) (by simp) (AllReadyIn.cons rfl (fun K hK => ?_) AllReadyIn.nil)
            go_simp
            refine hK _ _ ?_
            clear hK K
            refine wpAnyIn_done (by kernel_rfl) ?_ _
            gi_wp2
            refine ⟨⟨?_, ?_⟩, k6.block 1 (by omega), ⟨_, k2, by rw [HTK.out]; exact k3⟩, g3.trans k6, Nat.le_trans g4 k6.size⟩
            · obtain ⟨o, h1, h2⟩ := HREC.out _ (.inl rfl)
              rw [k4.same _ _ h1 h2, h1]
            · obtain ⟨o, h1, h2⟩ := HREC.out _ (.inr rfl)
              rw [k4.same _ _ h1 h2, h1]
          · go_simp
            refine ⟨trivial, (callsIn_wide.2 (CB.out _)).mono ?_⟩
            rintro e C0 ⟨rfl, hC0⟩
            subst hC0
            refine hK _ _ ?_
            clear hK K
            refine wpAnyIn_take (i := 4) (v := .int .u64 (q2 : Int)) rfl rfl (by kernel_rfl) (by kernel_rfl) (by kernel_rfl) (by intro _ _ _ h; first | exact h | cases h.1) ⟨Or.inl ⟨by rfl, fun w => by go_simp⟩, fun _ => rfl⟩ ?_
            refine wpAnyIn_ready (rs := [0, 5]) (by kernel_rfl) (by simp) (AllReadyIn.cons rfl (fun K hK => ?_) (AllReadyIn.cons rfl (fun K hK => ?_) AllReadyIn.nil))
            · go_simp
              refine hK _ _ ?_
              clear hK K
              refine wpAnyIn_ready (rs := [5]) (by kernel_rfl) (by simp) (AllReadyIn.cons rfl (fun K hK => ?_) AllReadyIn.nil)
              go_simp
              refine ⟨trivial, (callsIn_wide.2 (CZ.out _)).mono ?_⟩
              rintro e C0 ⟨rfl, hC0⟩
              subst hC0
              refine hK _ _ ?_
              clear hK K
              refine wpAnyIn_ready (rs := [6]) (by kernel_rfl) (by simp) (AllReadyIn.cons rfl (fun K hK => ?_) AllReadyIn.nil)
              go_simp
              refine hK _ _ ?_
              clear hK K
              refine wpAnyIn_ready (rs := [7]) (by kernel_rfl) (by simp) (AllReadyIn.cons rfl (fun K hK => ?_) AllReadyIn.nil)
              refine stepIn_append_own rfl (.tmp 24) (.tmp 30) 22 rfl w2.heap.size 3 i3 (.int .i64 0) 1 8 und22 hi3 hz0 hz1 hz2 rfl (by decide) (.slice ua i' uc) i' (((rows kept z).take i').map (Value.int .i64)) (by simp [Act.eval]) hrowd ⟨B.heap.size, 0, none⟩ 1 1 [.int .i64 (r : Int)] (by simp [Act.eval]) rfl hnews (by simp [Value.oneCell']) (by unfold maxLen; omega) (by omega) (by show w2.heap.size ≤ ((B.alloc (.cells #[.int .i64 (r : Int)] 3)).drew).heap.size; simp; omega) ?_
              intro v' w5 hown' hgrow
              obtain ⟨g', cap', rfl⟩ := ownsRow_succ hown'
              obtain ⟨k1, k2, k3, k4, _, k6⟩ := appFacts (S := fun _ => False) (lo := A.heap.size) (by decide) hu hrow hbd (fun _ h => h.elim) (fun h => h) g4 ⟨Nat.le_refl _, by omega⟩ hown' hgrow
              have k1c := k1.cell
              have k1f := k1.frozen
              refine hK _ _ ?_
              clear hK K
              refine wpAnyIn_ready (rs := [8]) (by kernel_rfl) (by simp) (AllReadyIn.cons rfl (fun K hK => ?_) AllReadyIn.nil)
              go_simp
              refine hK _ _ ?_
              clear hK K
              refine wpAnyIn_done (by kernel_rfl) ?_ _
              gi_wp2
              refine ⟨⟨?_, ?_⟩, k6.block 1 (by omega), ⟨_, k2, by rw [HTK.out]; exact k3⟩, g3.trans k6, Nat.le_trans g4 k6.size⟩
              · obtain ⟨o, h1, h2⟩ := HREC.out _ (.inl rfl)
                rw [k4.same _ _ h1 h2, h1]
              · obtain ⟨o, h1, h2⟩ := HREC.out _ (.inr rfl)
                rw [k4.same _ _ h1 h2, h1]
            · go_simp
              refine ⟨trivial, (callsIn_wide.2 (CZ.out _)).mono ?_⟩
              rintro e C0 ⟨rfl, hC0⟩
              subst hC0
              refine hK _ _ ?_
              clear hK K
              refine wpAnyIn_ready (rs := [0, 6]) (by kernel_rfl) (by simp) (AllReadyIn.cons rfl (fun K hK => ?_) (AllReadyIn.cons rfl (fun K hK => ?_) AllReadyIn.nil))
              · go_simp
                refine hK _ _ ?_
                clear hK K
                refine wpAnyIn_ready (rs := [6]) (by kernel_rfl) (by simp) (AllReadyIn.cons rfl (fun K hK => ?_) AllReadyIn.nil)
                go_simp
                refine hK _ _ ?_
                clear hK K
                refine wpAnyIn_ready (rs := [7]) (by kernel_rfl) (by simp) (AllReadyIn.cons rfl (fun K hK => ?_) AllReadyIn.nil)
                refine stepIn_append_own rfl (.tmp 24) (.tmp 30) 22 rfl w2.heap.size 3 i3 (.int .i64 0) 1 8 und22 hi3 hz0 hz1 hz2 rfl (by decide) (.slice ua i' uc) i' (((rows kept z).take i').map (Value.int .i64)) (by simp [Act.eval]) hrowd ⟨B.heap.size, 0, none⟩ 1 1 [.int .i64 (r : Int)] (by simp [Act.eval]) rfl hnews (by simp [Value.oneCell']) (by unfold maxLen; omega) (by omega) (by show w2.heap.size ≤ ((B.alloc (.cells #[.int .i64 (r : Int)] 3)).drew).heap.size; simp; omega) ?_
                intro v' w5 hown' hgrow
                obtain ⟨g', cap', rfl⟩ := ownsRow_succ hown'
                obtain ⟨k1, k2, k3, k4, _, k6⟩ := appFacts (S := fun _ => False) (lo := A.heap.size) (by decide) hu hrow hbd (fun _ h => h.elim) (fun h => h) g4 ⟨Nat.le_refl _, by omega⟩ hown' hgrow
                have k1c := k1.cell
                have k1f := k1.frozen
                refine hK _ _ ?_
                clear hK K
                refine wpAnyIn_ready (rs := [8]) (by kernel_rfl) (by simp) (AllReadyIn.cons rfl (fun K hK => ?_) AllReadyIn.nil)
                go_simp
                refine hK _ _ ?_
                clear hK K
                refine wpAnyIn_done (by kernel_rfl) ?_ _
                gi_wp2
                refine ⟨⟨?_, ?_⟩, k6.block 1 (by omega), ⟨_, k2, by rw [HTK.out]; exact k3⟩, g3.trans k6, Nat.le_trans g4 k6.size⟩
                · obtain ⟨o, h1, h2⟩ := HREC.out _ (.inl rfl)
                  rw [k4.same _ _ h1 h2, h1]
                · obtain ⟨o, h1, h2⟩ := HREC.out _ (.inr rfl)
                  rw [k4.same _ _ h1 h2, h1]
              · go_simp
                refine hK _ _ ?_
                clear hK K
                refine wpAnyIn_ready (rs := [0]) (by kernel_rfl) (by simp) (AllReadyIn.cons rfl (fun K hK => ?_) AllReadyIn.nil)
                go_simp
                refine hK _ _ ?_
                clear hK K
                refine wpAnyIn_ready (rs := [7]) (by kernel_rfl) (by simp) (AllReadyIn.cons rfl (fun K hK => ?_) AllReadyIn.nil)
                refine stepIn_append_own rfl (.tmp 24) (.tmp 30) 22 rfl w2.heap.size 3 i3 (.int .i64 0) 1 8 und22 hi3 hz0 hz1 hz2 rfl (by decide) (.slice ua i' uc) i' (((rows kept z).take i').map (Value.int .i64)) (by simp [Act.eval]) hrowd ⟨B.heap.size, 0, none⟩ 1 1 [.int .i64 (r : Int)] (by simp [Act.eval]) rfl hnews (by simp [Value.oneCell']) (by unfold maxLen; omega) (by omega) (by show w2.heap.size ≤ ((B.alloc (.cells #[.int .i64 (r : Int)] 3)).drew).heap.size; simp; omega) ?_
                intro v' w5 hown' hgrow
                obtain ⟨g', cap', rfl⟩ := ownsRow_succ hown'
                obtain ⟨k1, k2, k3, k4, _, k6⟩ := appFacts (S := fun _ => False) (lo := A.heap.size) (by decide) hu hrow hbd (fun _ h => h.elim) (fun h => h) g4 ⟨Nat.le_refl _, by omega⟩ hown' hgrow
                have k1c := k1.cell
                have k1f := k1.frozen
                refine hK _ _ ?_
                clear hK K
                refine wpAnyIn_ready (rs := [8]) (by kernel_rfl) (by simp) (AllReadyIn.cons rfl (fun K hK => ?_) AllReadyIn.nil)
                go_simp
                refine hK _ _ ?_
                clear hK K
                refine wpAnyIn_done (by kernel_rfl) ?_ _
                gi_wp2
                refine ⟨⟨?_, ?_⟩, k6.block 1 (by omega), ⟨_, k2, by rw [HTK.out]; exact k3⟩, g3.trans k6, Nat.le_trans g4 k6.size⟩
                · obtain ⟨o, h1, h2⟩ := HREC.out _ (.inl rfl)
                  rw [k4.same _ _ h1 h2, h1]
                · obtain ⟨o, h1, h2⟩ := HREC.out _ (.inr rfl)
                  rw [k4.same _ _ h1 h2, h1]
        · go_simp
          refine ⟨trivial, (callsIn_wide.2 (CB.out _)).mono ?_⟩
          rintro e C0 ⟨rfl, hC0⟩
          subst hC0
          refine hK _ _ ?_
          clear hK K
          refine wpAnyIn_ready (rs := [0, 1]) (by kernel_rfl) (by simp) (AllReadyIn.cons rfl (fun K hK => ?_) (AllReadyIn.cons rfl (fun K hK => ?_) AllReadyIn.nil))
          · go_simp
            refine hK _ _ ?_
            clear hK K
            refine wpAnyIn_ready (rs := [1]) (by kernel_rfl) (by simp) (AllReadyIn.cons rfl (fun K hK => ?_) AllReadyIn.nil)
            go_simp
            refine hK _ _ ?_
            clear hK K
            refine wpAnyIn_take (i := 4) (v := .int .u64 (q2 : Int)) rfl rfl (by kernel_rfl) (by kernel_rfl) (by kernel_rfl) (by intro _ _ _ h; first | exact h | cases h.1) ⟨Or.inl ⟨by rfl, fun w => by go_simp⟩, fun _ => rfl⟩ ?_
            refine wpAnyIn_ready (rs := [5]) (by kernel_rfl) (by simp) (AllReadyIn.cons rfl (fun K hK => ?_) AllReadyIn.nil)
            go_simp
            refine ⟨trivial, (callsIn_wide.2 (CZ.out _)).mono ?_⟩
            rintro e C0 ⟨rfl, hC0⟩
            subst hC0
            refine hK _ _ ?_
            clear hK K
            refine wpAnyIn_ready (rs := [6]) (by kernel_rfl) (by simp) (AllReadyIn.cons rfl (fun K hK => ?_) AllReadyIn.nil)
            go_simp
            refine hK _ _ ?_
            clear hK K
            refine wpAnyIn_ready (rs := [7]) (by kernel_rfl) (by simp) (AllReadyIn.cons rfl (fun K hK => ?_) AllReadyIn.nil)
            refine stepIn_append_own rfl (.tmp 24) (.tmp 30) 22 rfl w2.heap.size 3 i3 (.int .i64 0) 1 8 und22 hi3 hz0 hz1 hz2 rfl (by decide) (.slice ua i' uc) i' (((rows kept z).take i').map (Value.int .i64)) (by simp [Act.eval]) hrowd ⟨B.heap.size, 0, none⟩ 1 1 [.int .i64 (r : Int)] (by simp [Act.eval]) rfl hnews (by simp [Value.oneCell']) (by unfold maxLen; omega) (by omega) (by show w2.heap.size ≤ ((B.alloc (.cells #[.int .i64 (r : Int)] 3)).drew).heap.size; simp; omega) ?_
            intro v' w5 hown' hgrow
            obtain ⟨g', cap', rfl⟩ := ownsRow_succ hown'
            obtain ⟨k1, k2, k3, k4, _, k6⟩ := appFacts (S := fun _ => False) (lo := A.heap.size) (by decide) hu hrow hbd (fun _ h => h.elim) (fun h => h) g4 ⟨Nat.le_refl _, by omega⟩ hown' hgrow
            have k1c := k1.cell
            have k1f := k1.frozen
            refine hK _ _ ?_
            clear hK K
            refine wpAnyIn_ready (rs := [8]) (by kernel_rfl) (by simp) (AllReadyIn.cons rfl (fun K hK => ?_) AllReadyIn.nil)
            go_simp
            refine hK _ _ ?_
            clear hK K
            refine wpAnyIn_done (by kernel_rfl) ?_ _
            gi_wp2
            refine ⟨⟨?_, ?_⟩, k6.block 1 (by omega), ⟨_, k2, by rw [HTK.out]; exact k3⟩, g3.trans k6, Nat.le_trans g4 k6.size⟩
            · obtain ⟨o, h1, h2⟩ := HREC.out _ (.inl rfl)
              rw [k4.same _ _ h1 h2, h1]
            · obtain ⟨o, h1, h2⟩ := HREC.out _ (.inr rfl)
              rw [k4.same _ _ h1 h2, h1]
          · go_simp
            refine hK _ _ ?_
            clear hK K
            refine wpAnyIn_take (i := 4) (v := .int .u64 (q2 : Int)) rfl rfl (by kernel_rfl) (by kernel_rfl) (by kernel_rfl) (by intro _ _ _ h; first | exact h | cases h.1) ⟨Or.inl ⟨by rfl, fun w => by go_simp⟩, fun _ => rfl⟩ ?_
            refine wpAnyIn_ready (rs := [0, 5]) (by kernel_rfl) (by simp) (AllReadyIn.cons rfl (fun K hK => ?_) (AllReadyIn.cons rfl (fun K hK => ?_) AllReadyIn.nil))
            · go_simp
              refine hK _ _ ?_
              clear hK K
              refine wpAnyIn_ready (rs := [5]) (by kernel_rfl) (by simp) (AllReadyIn.cons rfl (fun K hK => ?_) AllReadyIn.nil)
              go_simp
              refine ⟨trivial, (callsIn_wide.2 (CZ.out _)).mono ?_⟩
              rintro e C0 ⟨rfl, hC0⟩
              subst hC0
              refine hK _ _ ?_
              clear hK K
              refine wpAnyIn_ready (rs := [6]) (by kernel_rfl) (by simp) (AllReadyIn.cons rfl (fun K hK => ?_) AllReadyIn.nil)
              go_simp
              refine hK _ _ ?_
              clear hK K
              refine wpAnyIn_ready (rs := [7]) (by kernel_rfl) (by simp) (AllReadyIn.cons rfl (fun K hK => ?_) AllReadyIn.nil)
              refine stepIn_append_own rfl (.tmp 24) (.tmp 30) 22 rfl w2.heap.size 3 i3 (.int .i64 0) 1 8 und22 hi3 hz0 hz1 hz2 rfl (by decide) (.slice ua i' uc) i' (((rows kept z).take i').map (Value.int .i64)) (by simp [Act.eval]) hrowd ⟨B.heap.size, 0, none⟩ 1 1 [.int .i64 (r : Int)] (by simp [Act.eval]) rfl hnews (by simp [Value.oneCell']) (by unfold maxLen; omega) (by omega) (by show w2.heap.size ≤ ((B.alloc (.cells #[.int .i64 (r : Int)] 3)).drew).heap.size; simp; omega) ?_
              intro v' w5 hown' hgrow
              obtain ⟨g', cap', rfl⟩ := ownsRow_succ hown'
              obtain ⟨k1, k2, k3, k4, _, k6⟩ := appFacts (S := fun _ => False) (lo := A.heap.size) (by decide) hu hrow hbd (fun _ h => h.elim) (fun h => h) g4 ⟨Nat.le_refl _, by omega⟩ hown' hgrow
              have k1c := k1.cell
              have k1f := k1.frozen
              refine hK _ _ ?_
              clear hK K
              refine wpAnyIn_ready (rs := [8]) (by kernel_rfl) (by simp) (AllReadyIn.cons rfl (fun K hK => ?_) AllReadyIn.nil)
              go_simp
              refine hK _ _ ?_
              clear hK K
              refine wpAnyIn_done (by kernel_rfl) ?_ _
              gi_wp2
              refine ⟨⟨?_, ?_⟩, k6.block 1 (by omega), ⟨_, k2, by rw [HTK.out]; exact k3⟩, g3.trans k6, Nat.le_trans g4 k6.size⟩
              · obtain ⟨o, h1, h2⟩ := HREC.out _ (.inl rfl)
                rw [k4.same _ _ h1 h2, h1]
              · obtain ⟨o, h1, h2⟩ := HREC.out _ (.inr rfl)
                rw [k4.same _ _ h1 h2, h1]
            · go_simp
              refine ⟨trivial, (callsIn_wide.2 (CZ.out _)).mono ?_⟩
              rintro e C0 ⟨rfl, hC0⟩
              subst hC0
              refine hK _ _ ?_
              clear hK K
              refine wpAnyIn_ready (rs := [0, 6]) (by kernel_rfl) (by simp) (AllReadyIn.cons rfl (fun K hK => ?_) (AllReadyIn.cons rfl (fun K hK => ?_) AllReadyIn.nil))
              · go_simp
                refine hK _ _ ?_
                clear hK K
                refine wpAnyIn_ready (rs := [6]) (by kernel_rfl) (by simp) (AllReadyIn.cons rfl (fun K hK => ?_) AllReadyIn.nil)
                go_simp
                refine hK _ _ ?_
                clear hK K
                refine wpAnyIn_ready (rs := [7]) (by kernel_rfl) (by simp) (AllReadyIn.cons rfl (fun K hK => ?_) AllReadyIn.nil)
                refine stepIn_append_own rfl (.tmp 24) (.tmp 30) 22 rfl w2.heap.size 3 i3 (.int .i64 0) 1 8 und22 hi3 hz0 hz1 hz2 rfl (by decide) (.slice ua i' uc) i' (((rows kept z).take i').map (Value.int .i64)) (by simp [Act.eval]) hrowd ⟨B.heap.size, 0, none⟩ 1 1 [.int .i64 (r : Int)] (by simp [Act.eval]) rfl hnews (by simp [Value.oneCell']) (by unfold maxLen; omega) (by omega) (by show w2.heap.size ≤ ((B.alloc (.cells #[.int .i64 (r : Int)] 3)).drew).heap.size; simp; omega) ?_
                intro v' w5 hown' hgrow
                obtain ⟨g', cap', rfl⟩ := ownsRow_succ hown'
                obtain ⟨k1, k2, k3, k4, _, k6⟩ := appFacts (S := fun _ => False) (lo := A.heap.size) (by decide) hu hrow hbd (fun _ h => h.elim) (fun h => h) g4 ⟨Nat.le_refl _, by omega⟩ hown' hgrow
                have k1c := k1.cell
                have k1f := k1.frozen
                refine hK _ _ ?_
                clear hK K
                refine wpAnyIn_ready (rs := [8]) (by kernel_rfl) (by simp) (AllReadyIn.cons rfl (fun K hK => ?_) AllReadyIn.nil)
                go_simp
                refine hK _ _ ?_
                clear hK K
                refine wpAnyIn_done (by kernel_rfl) ?_ _
                gi_wp2
                refine ⟨⟨?_, ?_⟩, k6.block 1 (by omega), ⟨_, k2, by rw [HTK.out]; exact k3⟩, g3.trans k6, Nat.le_trans g4 k6.size⟩
                · obtain ⟨o, h1, h2⟩ := HREC.out _ (.inl rfl)
                  rw [k4.same _ _ h1 h2, h1]
                · obtain ⟨o, h1, h2⟩ := HREC.out _ (.inr rfl)
                  rw [k4.same _ _ h1 h2, h1]
              · go_simp
                refine hK _ _ ?_
                clear hK K
                refine wpAnyIn_ready (rs := [0]) (by kernel_rfl) (by simp) (AllReadyIn.cons rfl (fun K hK => ?_) AllReadyIn.nil)
                go_simp
                refine hK _ _ ?_
                clear hK K
                refine wpAnyIn_ready (rs := [7]) (by kernel_rfl) (by simp) (AllReadyIn.cons rfl (fun K hK => ?_) AllReadyIn.nil)
                refine stepIn_append_own rfl (.tmp 24) (.tmp 30) 22 rfl w2.heap.size 3 i3 (.int .i64 0) 1 8 und22 hi3 hz0 hz1 hz2 rfl (by decide) (.slice ua i' uc) i' (((rows kept z).take i').map (Value.int .i64)) (by simp [Act.eval]) hrowd ⟨B.heap.size, 0, none⟩ 1 1 [.int .i64 (r : Int)] (by simp [Act.eval]) rfl hnews (by simp [Value.oneCell']) (by unfold maxLen; omega) (by omega) (by show w2.heap.size ≤ ((B.alloc (.cells #[.int .i64 (r : Int)] 3)).drew).heap.size; simp; omega) ?_
                intro v' w5 hown' hgrow
                obtain ⟨g', cap', rfl⟩ := ownsRow_succ hown'
                obtain ⟨k1, k2, k3, k4, _, k6⟩ := appFacts (S := fun _ => False) (lo := A.heap.size) (by decide) hu hrow hbd (fun _ h => h.elim) (fun h => h) g4 ⟨Nat.le_refl _, by omega⟩ hown' hgrow
                have k1c := k1.cell
                have k1f := k1.frozen
                refine hK _ _ ?_
                clear hK K
                refine wpAnyIn_ready (rs := [8]) (by kernel_rfl) (by simp) (AllReadyIn.cons rfl (fun K hK => ?_) AllReadyIn.nil)
                go_simp
                refine hK _ _ ?_
                clear hK K
                refine wpAnyIn_done (by kernel_rfl) ?_ _
                gi_wp2
                refine ⟨⟨?_, ?_⟩, k6.block 1 (by omega), ⟨_, k2, by rw [HTK.out]; exact k3⟩, g3.trans k6, Nat.le_trans g4 k6.size⟩
                · obtain ⟨o, h1, h2⟩ := HREC.out _ (.inl rfl)
                  rw [k4.same _ _ h1 h2, h1]
                · obtain ⟨o, h1, h2⟩ := HREC.out _ (.inr rfl)
                  rw [k4.same _ _ h1 h2, h1]
      case done =>
        rintro B ⟨⟨uu, g1, g2⟩, g3, g4⟩ hK
        have kB := HA.out.below g3
        have hrl : (rows kept z).length = (pts z).length := by unfold rows amL; simp
        rw [List.take_of_length_le (by omega)] at g2
        have hurow : ORow B (w.heap.size + 3) uu (amL kept z) := by
          unfold ORow
          have h1 : (amL kept z).length = (pts z).length := by unfold amL; simp
          rw [h1]
          exact own_low g2 (by omega)
        obtain ⟨vals, h1, h2⟩ := kB.o
        have hil : ((S.take i).map fun y => amL kept (y &&& kept)).length = i := by rw [List.length_map, List.length_take, hn]; omega
        have h1' := h1
        rw [hil] at h1'
        obtain ⟨da, dc, ed⟩ := own_formE h1'
        obtain ⟨ua, uc, eu⟩ := own_formE g2
        have q8 := g1.cell
        have qd : B.cell? ⟨w.heap.size + 1 + 1, 1, none⟩ = some dv := by rw [cell_of_row _ _ _ _ _ _ kB.d]; rfl
        have hbs : w.heap.size + 3 ≤ B.heap.size := kB.size
        have b5 := balloc B (.cells #[uu] 22)
        have h64 : (pts z).length ≤ 64 := pc_le z
        have kBa := kB.below b5
        have HN : Hid (∀ v' w5, w5.ownsRow (w.heap.size + 3) 22 1 v' (i + 1) (vals ++ [uu]) → (B.alloc (.cells #[uu] 22)).grownBy w5 dv.ownBlock → (w5.cell? ⟨w.heap.size + 1 + 1, 1, none⟩ = some dv ∧ w5.frozen? ⟨w.heap.size + 1 + 1, 1, none⟩ = false) ∧ AmI w kept p v' (w2.heap.size :: rs) ((S.take (i + 1)).map fun y => amL kept (y &&& kept)) (w5.setCell ⟨w.heap.size + 1 + 1, 1, none⟩ v')) := by
          intro v' w5 hown' hgr
          have hob : ∀ b o, (B.alloc (.cells #[uu] 22)).heap[b]? = some o → (b < w.heap.size + 3 ∨ o.isCells = false) → w5.heap[b]? = some o := by
            intro b o hb hc
            refine (hgr.block b (Array.getElem?_eq_some_iff.1 hb).1 fun e => ?_).trans hb
            obtain ⟨_, ⟨rfl, _⟩ | ⟨g', cap', cur', rfl, hg1, hg', _⟩⟩ := h1'
            · simp [Value.ownBlock] at e
            · have e2 : b = g' := by simpa [Value.ownBlock] using e
              subst e2
              rcases hc with hc | hc
              · omega
              · rw [(b5.block b (Array.getElem?_eq_some_iff.1 hg').1).trans hg'] at hb
                cases hb; cases hc
          have d5 := hob _ _ kBa.d (.inl (by omega))
          have r5 := hob _ _ kBa.r (.inl (by omega))
          have k5 : Boxed w5 w.heap.size 72 (.int .u64 (kept : Int)) := hob _ _ kBa.k (.inl (by omega))
          have o5 : OR w5 (w.heap.size + 3) v' (((S.take i).map fun y => amL kept (y &&& kept)) ++ [amL kept z]) :=
            OR.more (wa := B.alloc (.cells #[uu] 22)) (h1.alloc _) (fun j u l e1 e2 => ORow.below (h2 j u l e1 e2) b5) (hurow.below b5) (by rw [hil]; exact hown') hgr
          have hK5 := hob _ _ ((b5.block _ (Array.getElem?_eq_some_iff.1 hK).1).trans hK) (.inr rfl)
          have oth : ∀ b, b ≠ w.heap.size + 1 + 1 → (w5.setCell ⟨w.heap.size + 1 + 1, 1, none⟩ v').heap[b]? = w5.heap[b]? := fun b hb => heap_setCell_other w5 ⟨w.heap.size + 1 + 1, 1, none⟩ b v' hb
          refine ⟨⟨by rw [cell_of_row _ _ _ _ _ _ d5]; rfl, frozen_of_row _ _ _ _ _ d5⟩, ?_⟩
          refine ⟨boxAt k5 (oth _ (by omega)), (oth _ (by omega)).trans r5, (by have h := heap_setCell_same w5 (w.heap.size + 1 + 1) 1 #[.int .i64 (p : Int), dv] 29 v' d5; simpa using h), ?_, List.nodup_cons.2 ⟨fun h => ?_, kB.nd⟩, fun q hq => ?_, ?_⟩
          · rw [HTI.out]
            exact o5.keep fun b hb _ => oth b (by omega)
          · have := (HA.out.mks _ h).2
            have := (Array.getElem?_eq_some_iff.1 this).1
            omega
          · rcases List.mem_cons.1 hq with rfl | hq
            · exact ⟨by omega, (oth _ (by omega)).trans hK5⟩
            · have hm := kBa.mks q hq
              exact ⟨hm.1, (oth _ (by omega)).trans (hob _ _ hm.2 (.inr rfl))⟩
          · have bg : Below w.heap.size w w5 := kBa.bw.grown hgr kBa.bw.size (fun k hk => by have := (h1'.lt k hk).1; omega)
            exact bg.setCell (p := ⟨w.heap.size + 1 + 1, 1, none⟩) (by show _ ≤ w.heap.size + 1 + 1; omega) _
        have hrow2 : B.ownsRow (w.heap.size + 3) 22 1 dv i vals := h1'
        subst ed
        subst eu
        have r8 : (B.alloc (.cells #[.slice ua (pts z).length uc] 22)).cell? ⟨A.heap.size, 0, none⟩ = some (.slice ua (pts z).length uc) := (g1.alloc _).cell
        generalize (pts z).length = pl at *
        clear s1 s2 kB hurow h1 h2 h1' hil b5 kBa hrl g2 g3 g4 h64
        gi_wp2_with (gi_at_builtin; refine wpListIn_append_own _ rfl _ _ 27 rfl (w.heap.size + 3) 22 i36 (.slice none 0 0) 1 24 undR ji3 jz0 jz1 jz2 rfl (by decide) _ _ _ rfl (hrow2.alloc _) ⟨B.heap.size, 0, none⟩ 1 1 [.slice ua pl uc] rfl rfl (cell_one_new _ _ _) (by simp [Value.oneCell']) (by unfold maxLen; omega) (by omega) (by simp; omega) ?_; intro v' w5 hown' hgrow _; obtain ⟨⟨n1, n2⟩, n3⟩ := HN.out v' w5 hown' hgrow; obtain ⟨g', cap', rfl⟩ := ownsRow_succ hown')
        refine ⟨⟨_, _, _, _, _, _, _, _, _, _, _, _, _, _, _, _, _, _, _, _, _, _, _, _, _, _, i + 1, _, w2.heap.size :: rs, rfl, by omega, n3⟩, ?_⟩
        show n - ((i : Int) + 1).toNat < n - ((i : Int)).toNat
        omega
    · have hd : decide ((i : Int) < (n : Int)) = false := by simp; omega
      obtain rfl : i = n := by omega
      rw [HALL.out] at hA
      have x0 : A.cell? ⟨w.heap.size + 1 + 1, 0, none⟩ = some (.int .i64 (p : Int)) := by rw [cell_of_row _ _ _ _ _ _ hA.d]; rfl
      have x1 : A.cell? ⟨w.heap.size + 1 + 1, 1, none⟩ = some dv := by rw [cell_of_row _ _ _ _ _ _ hA.d]; rfl
      have y0 : A.cell? ⟨w.heap.size + 1, 0, none⟩ = some (.int .i64 0) := by rw [cell_of_row _ _ _ _ _ _ hA.r]; rfl
      have y1 : A.cell? ⟨w.heap.size + 1, 1, none⟩ = some (.slice none 0 0) := by rw [cell_of_row _ _ _ _ _ _ hA.r]; rfl
      have z0 : A.frozen? ⟨w.heap.size + 1, 0, none⟩ = false := frozen_of_row _ _ _ _ _ hA.r
      have z1 : A.frozen? ⟨w.heap.size + 1, 1, none⟩ = false := frozen_of_row _ _ _ _ _ hA.r
      obtain ⟨vals, h1, h2⟩ := id hA.o
      obtain ⟨da, dc, ed⟩ := own_formE h1
      subst ed
      clear h1 h2
      generalize (List.map (fun y => amL kept (y &&& kept)) S).length = ll at *
      gi_wp2
      obtain ⟨C, HCw⟩ : ∃ C, Hid (C = (A.setCell ⟨w.heap.size + 1, 0, none⟩ (.int .i64 (p : Int))).setCell ⟨w.heap.size + 1, 1, none⟩ (.slice da ll dc)) := ⟨_, rfl⟩
      have hr5 : C.heap[w.heap.size + 1]? = some (.cells #[.int .i64 (p : Int), .slice da ll dc] 29 (0, 0)) := by
        rw [HCw.out]
        have h1 := heap_setCell_same A (w.heap.size + 1) 0 #[.int .i64 0, .slice none 0 0] 29 (.int .i64 (p : Int)) hA.r
        have h2 := heap_setCell_same _ (w.heap.size + 1) 1 _ 29 (.slice da ll dc) h1
        simpa using h2
      have oth : ∀ b, b ≠ w.heap.size + 1 → C.heap[b]? = A.heap[b]? := fun b hb => by
        rw [HCw.out]
        exact (heap_setCell_other _ ⟨w.heap.size + 1, 1, none⟩ b _ hb).trans (heap_setCell_other A ⟨w.heap.size + 1, 0, none⟩ b _ hb)
      have bC : Below w.heap.size A C := by
        rw [HCw.out]
        exact ((Below.refl _ A).setCell (p := ⟨w.heap.size + 1, 0, none⟩) (by show _ ≤ w.heap.size + 1; omega) _).setCell (p := ⟨w.heap.size + 1, 1, none⟩) (by show _ ≤ w.heap.size + 1; omega) _
      have oC : OR C (w.heap.size + 3) (.slice da ll dc) (S.map fun y => amL kept (y &&& kept)) := hA.o.keep fun b hb _ => oth b (by omega)
      rw [← HCw.out]
      refine marks_leave2 (m := w.heap.size + 3) rs C hA.nd (fun q hq => ⟨(hA.mks q hq).1, (oth q (by have := (hA.mks q hq).1; omega)).trans (hA.mks q hq).2⟩) fun D hb hc => ?_
      exact ⟨_, results_cell_row rfl _ D (w.heap.size + 1) 29 #[.int .i64 (p : Int), .slice da ll dc] (0, 0) _ rfl (hc.2 _ _ hr5 rfl) Tryd.underlying29 rfl inf24, _, rfl, hc.or oC, (hA.bw.trans bC).trans (hb.mono (by omega))⟩

end Go.Proofs.YtgpkhfpejopacaaDoor

/- The walk of lying: of each point the blocks that have it. -/
/- The walk of Complement. -/
namespace Go.Proofs.YtgpkhfpejopacaaDoor
open Go.RowKit

/-- A row of sets of one's own, to be changed. -/
def OwnS (w : World) (g n : Nat) (f : Nat → Nat) : Prop := ∃ cur, w.heap[g]? = some (.cells cur 72 (0, 0)) ∧ ∀ j, j < n → cur[j]? = some (.int .u64 ((f j : Nat) : Int))
theorem OwnS.lt {w : World} {g n : Nat} {f : Nat → Nat} (h : OwnS w g n f) : g < w.heap.size := by
  obtain ⟨cur, h, _⟩ := h
  exact (Array.getElem?_eq_some_iff.1 h).1
theorem OwnS.cell {w : World} {g n : Nat} {f : Nat → Nat} (h : OwnS w g n f) (j : Nat) (hj : j < n) : w.cell? ⟨g, j, none⟩ = some (.int .u64 ((f j : Nat) : Int)) := by
  obtain ⟨cur, h, hc⟩ := h
  rw [cell_of_row w g j _ _ _ h, hc j hj]
theorem OwnS.frozen {w : World} {g n : Nat} {f : Nat → Nat} (h : OwnS w g n f) (j : Nat) : w.frozen? ⟨g, j, none⟩ = false := by
  obtain ⟨cur, h, _⟩ := h
  exact frozen_of_row w g j _ _ h
def updS (f : Nat → Nat) (i v : Nat) : Nat → Nat := fun j => if j = i then v else f j
theorem OwnS.set {w : World} {g n : Nat} {f : Nat → Nat} (h : OwnS w g n f) (i v : Nat) : OwnS (w.setCell ⟨g, i, none⟩ (.int .u64 (v : Int))) g n (updS f i v) := by
  obtain ⟨cur, h, hc⟩ := h
  refine ⟨_, heap_setCell_same w g i _ _ _ h, fun j hj => ?_⟩
  have hcj := hc j hj
  have hlt : j < cur.size := (Array.getElem?_eq_some_iff.1 hcj).1
  rw [Array.getElem?_setIfInBounds]
  by_cases e : i = j
  · subst e; rw [if_pos rfl, if_pos hlt]; simp [updS]
  · rw [if_neg e, hcj]; simp [updS, Ne.symm e]
theorem OwnS.congr {w : World} {g n : Nat} {f f' : Nat → Nat} (h : OwnS w g n f) (e : ∀ j, j < n → f j = f' j) : OwnS w g n f' := by
  obtain ⟨cur, h, hc⟩ := h
  exact ⟨cur, h, fun j hj => by rw [hc j hj, e j hj]⟩
theorem OwnS.sc {w : World} {g cap : Nat} {S : List Nat} (h : OwnS w g S.length fun j => S.getD j 0) (hc : S.length ≤ cap) (hm : cap ≤ maxLen) : SC w (.slice (some ⟨g, 0, none⟩) S.length cap) S :=
  ⟨_, cap, rfl, hc, hm, fun j hj => ⟨g, 0, rfl, fun W hW => by
    rw [Nat.zero_add]
    exact (hW.cell (p := ⟨g, j, none⟩) h.lt).trans (h.cell j hj)⟩⟩
theorem SRow.owns {w : World} {base : Nat} {v : Value} {S : List Nat} (h : SRow w base v S) (hne : 0 < S.length) : ∃ g cap, v = .slice (some ⟨g, 0, none⟩) S.length cap ∧ base ≤ g ∧ S.length ≤ cap ∧ cap ≤ maxLen ∧ OwnS w g S.length fun j => S.getD j 0 := by
  obtain ⟨_, ⟨rfl, hn⟩ | ⟨g, cap, cur, rfl, hb, hg, h1, h2, _, ht⟩⟩ := h
  · omega
  · refine ⟨g, cap, rfl, hb, h1, h2, cur, hg, fun j hj => ?_⟩
    have h3 : (cur.toList.take (S.length * 1))[j]? = (S.map fun s => Value.int .u64 ((s : Nat) : Int))[j]? := by rw [ht]
    rw [List.getElem?_take, if_pos (by omega)] at h3
    rw [← Array.getElem?_toList, h3]
    simp [hj]

/-! ### What is kept of all points -/
theorem pc_low {v x : Nat} (hx : x ≤ v) (hv : v ≤ 64) : pc ((2 ^ v - 1) &&& (2 ^ x - 1)) = x := by
  have e : pts ((2 ^ v - 1) &&& (2 ^ x - 1)) = List.range x := by
    have h1 : 2 ^ v - 1 < 2 ^ 64 := by
      have : 2 ^ v ≤ 2 ^ 64 := Nat.pow_le_pow_right (by decide) hv
      have : 0 < 2 ^ v := Nat.two_pow_pos v
      omega
    refine pts_ext List.pairwise_lt_range (Nat.lt_of_le_of_lt Nat.and_le_left h1) fun i => ?_
    rw [Nat.testBit_and, low_bit, low_bit, List.mem_range, Bool.and_eq_true, decide_eq_true_eq, decide_eq_true_eq]
    omega
  unfold pc
  rw [e, List.length_range]
theorem am_all {v z : Nat} (hv : v ≤ 64) (hz : ∀ x ∈ pts z, x < v) : amL (2 ^ v - 1) z = pts z := by
  unfold amL
  conv => rhs; rw [← List.map_id (pts z)]
  refine List.map_congr_left fun x hx => ?_
  rw [pc_low (Nat.le_of_lt (hz x hx)) hv]
  rfl
theorem pc_all {v : Nat} (hv : v ≤ 64) : pc (2 ^ v - 1) = v := by
  have := pc_low (Nat.le_refl v) hv
  rwa [Nat.and_self] at this
theorem low_lt {v n : Nat} (h : v ≤ n) : 2 ^ v - 1 < 2 ^ n := by
  have h1 : 2 ^ v ≤ 2 ^ n := Nat.pow_le_pow_right (by decide) h
  have : 0 < 2 ^ v := Nat.two_pow_pos v
  omega
theorem am_oth {v : Nat} {b : List Nat} (hv : v ≤ 40) (hb : ∀ x ∈ b, x < v) : amL (2 ^ v - 1) (an (2 ^ v - 1) (sb b) &&& (2 ^ v - 1)) = oth v b := by
  have h1 : 2 ^ v - 1 < 2 ^ 64 := low_lt (by omega)
  have h2 : sb b < 2 ^ 64 := sb_lt fun x hx => by have := hb x hx; omega
  have e : pts (an (2 ^ v - 1) (sb b) &&& (2 ^ v - 1)) = oth v b := by
    refine pts_ext (oth_rise v b) (Nat.lt_of_le_of_lt Nat.and_le_right h1) fun i => ?_
    rw [Nat.testBit_and, an_bit h1 h2, low_bit, sb_bit, oth_mem]
    by_cases hi : i < v
    · simp [hi]
    · simp [hi]
  rw [am_all (by omega) (by rw [e]; exact fun x hx => (oth_mem.1 hx).1), e]

/-- What a design's result box holds, once stored. -/
theorem res_store {w0 w3 : World} {r : Nat} {p : Nat} {y : Value} (h5 : w3.heap[r]? = some (.cells #[.int .i64 0, .slice none 0 0] 29 (0, 0))) (hn : w0.heap.size ≤ r) :
    ((w3.setCell ⟨r, 0, none⟩ (.int .i64 (p : Int))).setCell ⟨r, 1, none⟩ y).heap[r]? = some (.cells #[.int .i64 (p : Int), y] 29 (0, 0)) ∧ (∀ b, b ≠ r → ((w3.setCell ⟨r, 0, none⟩ (.int .i64 (p : Int))).setCell ⟨r, 1, none⟩ y).heap[b]? = w3.heap[b]?) ∧ Below w0.heap.size w3 ((w3.setCell ⟨r, 0, none⟩ (.int .i64 (p : Int))).setCell ⟨r, 1, none⟩ y) := by
  have h6 := heap_setCell_same w3 r 0 _ 29 (.int .i64 (p : Int)) h5
  have h7 := heap_setCell_same _ r 1 _ 29 y h6
  exact ⟨by simpa using h7, fun b hb => (heap_setCell_other _ ⟨r, 1, none⟩ b _ hb).trans (heap_setCell_other w3 ⟨r, 0, none⟩ b _ hb), ((Below.refl _ w3).setCell (p := ⟨r, 0, none⟩) hn _).setCell (p := ⟨r, 1, none⟩) hn _⟩
/-- Rows above a block abide its change. -/
theorem rw_above {w w' : World} {base r : Nat} {y : Value} {ls : List (List Nat)} (h : OR w base y ls) (hr : r < base) (k : ∀ b, b ≠ r → w'.heap[b]? = w.heap[b]?) : Rw w' y (toZ ls) := (h.keep fun b hb _ => k b (by omega)).rw

end Go.Proofs.YtgpkhfpejopacaaDoor

namespace Go.Proofs.YtgpkhfpejopacaaDoor
open Go.RowKit Go.Shelf

attribute [local go_sem] Oper.semAt_some

theorem undS2 : Tryd.prog.underlying 67 = some (.slice 72) := by kernel_rfl
theorem run_makeS (n : Nat) (hn : n ≤ 100000) (w : World) : (Instr.makeSlice 67 (.int .i64 (n : Int)) (.int .i64 (n : Int))).run Tryd.prog w = .ok (.slice (some ⟨w.heap.size, 0, none⟩) n n) (w.alloc (.cells (madeCells #[.int .u64 0] n) 72)) := by
  obtain ⟨i4, hi, hz0, hz1, hz2⟩ := infoS
  have h := run_make (P := Tryd.prog) w 67 72 i4 (.int .u64 0) undS2 hi hz0 .i64 .i64 n n (by omega) (by omega) (by rw [hz2]; omega) (by omega)
  simpa [hz1, Value.cells] using h
theorem owns_new (w : World) (n : Nat) : OwnS (w.alloc (.cells (madeCells #[.int .u64 0] n) 72)) w.heap.size n (fun _ => 0) := by
  refine ⟨_, heap_alloc_new w _, fun j hj => ?_⟩
  rw [Array.getElem?_eq_getElem (by rw [size_madeCells]; exact hj)]
  simp [madeCells, Nat.mod_one]
/-- The blocks, of the first i, that have a point. -/
def lyN (S : List Nat) (i x : Nat) : Nat := sb ((List.range i).filter fun j => (S.getD j 0).testBit x)
theorem ly_zero (S : List Nat) (x : Nat) : lyN S 0 x = 0 := rfl
theorem ly_succ (S : List Nat) (i x : Nat) : lyN S (i + 1) x = if (S.getD i 0).testBit x = true then lyN S i x ||| 2 ^ i else lyN S i x := by
  unfold lyN
  rw [List.range_succ, List.filter_append]
  by_cases h : (S.getD i 0).testBit x = true
  · rw [if_pos h]
    have : [i].filter (fun j => (S.getD j 0).testBit x) = [i] := by simp only [List.filter_cons, h, if_true, List.filter_nil]
    rw [this, sb_snoc]
  · rw [if_neg h]
    have : [i].filter (fun j => (S.getD j 0).testBit x) = [] := by simp only [List.filter_cons, h, List.filter_nil]; rfl
    rw [this, List.append_nil]
theorem ly_lt (S : List Nat) (i x : Nat) : lyN S i x < 2 ^ i := sb_lt fun _ hj => List.mem_range.1 (List.mem_filter.1 hj).1
/-- In the midst of a block. -/
def lyM (S : List Nat) (i k x : Nat) : Nat := if ((pts (S.getD i 0)).take k).contains x = true then lyN S i x ||| 2 ^ i else lyN S i x
theorem lyM_zero (S : List Nat) (i x : Nat) : lyM S i 0 x = lyN S i x := by unfold lyM; rw [List.take_zero, if_neg (by simp)]
theorem lyM_all {S : List Nat} {i x : Nat} (h : S.getD i 0 < 2 ^ 64) : lyM S i (pts (S.getD i 0)).length x = lyN S (i + 1) x := by
  unfold lyM
  rw [List.take_of_length_le (Nat.le_refl _), ly_succ]
  have : (pts (S.getD i 0)).contains x = (S.getD i 0).testBit x := by rw [Bool.eq_iff_iff, List.contains_iff_mem, pts_mem' h]
  rw [this]
theorem lyM_succ {S : List Nat} {i k x : Nat} (h : (pts (S.getD i 0))[k]? = some x) (z : Nat) : lyM S i (k + 1) z = if z = x then lyM S i k x ||| 2 ^ i else lyM S i k z := by
  have hn : ¬ ((pts (S.getD i 0)).take k).contains x = true := by
    rw [List.contains_iff_mem]
    intro hm
    obtain ⟨j, hj, e⟩ := List.mem_iff_getElem?.1 hm |>.imp fun j hj => (⟨(List.getElem?_eq_some_iff.1 hj).1, hj⟩ : _ ∧ _)
    rw [List.length_take] at hj
    rw [List.getElem?_take, if_pos (by omega)] at e
    have hp := pts_rise (S.getD i 0)
    have h1 := (List.getElem?_eq_some_iff.1 e)
    have h2 := (List.getElem?_eq_some_iff.1 h)
    have := List.pairwise_iff_getElem.1 hp j k h1.1 h2.1 (by omega)
    rw [h1.2, h2.2] at this
    omega
  have e : (pts (S.getD i 0)).take (k + 1) = (pts (S.getD i 0)).take k ++ [x] := by rw [List.take_add_one, h]; rfl
  unfold lyM
  rw [e, if_neg hn]
  by_cases hz : z = x
  · subst hz
    rw [if_pos rfl, if_pos (by simp)]
  · rw [if_neg hz]
    have : ((pts (S.getD i 0)).take k ++ [x]).contains z = ((pts (S.getD i 0)).take k).contains z := by
      rw [Bool.eq_iff_iff]
      simp only [List.contains_iff_mem, List.mem_append, List.mem_singleton, hz, or_false]
    rw [this]
theorem lyM_lt (S : List Nat) (i k x : Nat) : lyM S i k x < 2 ^ (i + 1) := by
  have h1 := ly_lt S i x
  have h2 : 2 ^ i < 2 ^ (i + 1) := pow_lt64 (by omega)
  unfold lyM
  split
  · exact Nat.or_lt_two_pow (by omega) h2
  · omega
/-- What lying holds. -/
structure LyI (w : World) (v : Nat) (f : Nat → Nat) (rs : List Nat) (A : World) : Prop where
  o : OwnS A w.heap.size v f
  b : Boxed A (w.heap.size + 1) 67 (.slice (some ⟨w.heap.size, 0, none⟩) v v)
  nd : rs.Nodup
  mks : ∀ q ∈ rs, w.heap.size + 2 ≤ q ∧ A.heap[q]? = some (.deferred (some []))
  bw : Below w.heap.size w A
theorem LyI.size {w : World} {v : Nat} {f : Nat → Nat} {rs : List Nat} {A : World} (h : LyI w v f rs A) : w.heap.size + 2 ≤ A.heap.size := h.b.lt
theorem LyI.below {w : World} {v : Nat} {f : Nat → Nat} {rs : List Nat} {A B : World} (h : LyI w v f rs A) (b : Below A.heap.size A B) : LyI w v f rs B := by
  have hs := h.size
  obtain ⟨cur, h1, h2⟩ := id h.o
  exact ⟨⟨cur, (b.block _ h.o.lt).trans h1, h2⟩, boxBelow h.b b h.b.lt, h.nd, fun q hq => ⟨(h.mks q hq).1, (b.block _ (Array.getElem?_eq_some_iff.1 (h.mks q hq).2).1).trans (h.mks q hq).2⟩, h.bw.trans (b.mono (by omega))⟩
theorem LyI.put {w : World} {v : Nat} {f : Nat → Nat} {rs : List Nat} {A : World} (h : LyI w v f rs A) {l : Nat} (o' : Obj) (hl : w.heap.size + 2 ≤ l) (hr : l ∉ rs) : LyI w v f rs (A.putObj l o') := by
  obtain ⟨cur, h1, h2⟩ := id h.o
  exact ⟨⟨cur, (World.putObj_heap_other (by omega)).trans h1, h2⟩, boxAt h.b (World.putObj_heap_other (by omega)), h.nd, fun q hq => ⟨(h.mks q hq).1, (World.putObj_heap_other (show q ≠ l from fun e => hr (e ▸ hq))).trans (h.mks q hq).2⟩, h.bw.trans (below_put _ _ (by omega))⟩
theorem LyI.set {w : World} {v : Nat} {f : Nat → Nat} {rs : List Nat} {A : World} (h : LyI w v f rs A) (x r : Nat) : LyI w v (updS f x r) rs (A.setCell ⟨w.heap.size, x, none⟩ (.int .u64 (r : Int))) :=
  ⟨h.o.set x r, boxAt h.b (heap_setCell_other A ⟨w.heap.size, x, none⟩ _ _ (by show _ ≠ w.heap.size; omega)), h.nd, fun q hq => ⟨(h.mks q hq).1, (heap_setCell_other A ⟨w.heap.size, x, none⟩ _ _ (by show q ≠ w.heap.size; have := (h.mks q hq).1; omega)).trans (h.mks q hq).2⟩, h.bw.setCell (p := ⟨w.heap.size, x, none⟩) (Nat.le_refl _) _⟩
theorem LyI.congr {w : World} {v : Nat} {f f' : Nat → Nat} {rs : List Nat} {A : World} (h : LyI w v f rs A) (e : ∀ j, j < v → f j = f' j) : LyI w v f' rs A := ⟨h.o.congr e, h.b, h.nd, h.mks, h.bw⟩

set_option maxRecDepth 100000 in
set_option maxHeartbeats 16000000 in
theorem lying_any (v : Nat) (S : List Nat) (u : Value) (w : World) (hT : Tab w) (hu : SC w u S) (hv : v ≤ 40) (hl : S.length ≤ 40) (hS : ∀ x ∈ S, x < 2 ^ v) :
    Calls Tryd.prog 52 #[.int .i64 (v : Int), u] w fun e w' => ∃ x, e = .returned x ∧ SC w' x ((List.range v).map (lyN S S.length)) ∧ Below w.heap.size w w' := by
  refine (callsIn_wide (n := 4)).1 ?_
  obtain ⟨a, cap, rfl, hcap, hcm, hc⟩ := hu
  have HC : Hid (∀ j, j < S.length → ∃ g off, a = some ⟨g, off, none⟩ ∧ ∀ W, Below w.heap.size w W → W.cell? ⟨g, off + j, none⟩ = some (.int .u64 ((S.getD j 0 : Nat) : Int))) := hc
  have HS : Hid (∀ j, j < S.length → S.getD j 0 < 2 ^ v) := fun j hj => hS _ (getD_in hj)
  have HTab : Hid (Tab w) := hT
  generalize hn : S.length = n at *
  have hmk : ∀ w : World, (Instr.makeSlice 67 (.int .i64 (v : Int)) (.int .i64 (v : Int))).run Tryd.prog w = .ok (.slice (some ⟨w.heap.size, 0, none⟩) v v) (w.alloc (.cells (madeCells #[.int .u64 0] v) 72)) := fun w => run_makeS v (by omega) w
  have A0 : LyI w v (lyN S 0) [] ((w.alloc (.cells (madeCells #[.int .u64 0] v) 72)).alloc (.cells #[.slice (some ⟨w.heap.size, 0, none⟩) v v] 67)) := by
    have f1 := Boxed.new (w.alloc (.cells (madeCells #[.int .u64 0] v) 72)) 67 (.slice (some ⟨w.heap.size, 0, none⟩) v v)
    rw [World.size_alloc] at f1
    obtain ⟨cur, h1, h2⟩ := owns_new w v
    exact ⟨⟨cur, (Below.heap_alloc _ _ _ (by simp)).trans h1, h2⟩, f1, List.nodup_nil, fun q hq => by simp at hq, (balloc w _).alloc (by simp) _⟩
  have HA0 : Hid (LyI w v (lyN S 0) [] ((w.alloc (.cells (madeCells #[.int .u64 0] v) 72)).alloc (.cells #[.slice (some ⟨w.heap.size, 0, none⟩) v v] 67))) := A0
  have hfin : Hid (∀ W, OwnS W w.heap.size v (lyN S n) → SC W (.slice (some ⟨w.heap.size, 0, none⟩) v v) ((List.range v).map (lyN S n))) := fun W h => by
    have := OwnS.sc (w := W) (g := w.heap.size) (cap := v) (S := (List.range v).map (lyN S n)) (by
      rw [List.length_map, List.length_range]
      exact h.congr fun j hj => by simp [hj]) (by simp) (by unfold maxLen; omega)
    rwa [List.length_map, List.length_range] at this
  clear hc hS hT hcap hcm A0
  refine callsIn_of_wp_marks Tryd.func52 rfl trivial ?_ rfl
  simp only [Tryd.ntmps52, List.size_toArray, List.length_cons, List.length_nil, Nat.reduceAdd, Nat.reduceSub, Array.replicate_succ, Array.replicate_zero, List.push_toArray, List.append_toArray, List.nil_append, List.cons_append]
  gi_wp2
  refine wpIn_loop (fun act A => ∃ (u6 u7 u8 u14 u15 u16 u17 u18 u19 u20 u21 u22 u23 u24 u25 u26 u27 u28 u29 : Value) (i : Nat) (rs : List Nat), act = { tmps := #[.int .i64 (v : Int), .slice a n cap, undef, undef, .slice none 0 0, .pointer (some ⟨w.heap.size + 1, 0, none⟩), u6, u7, u8, .int .i64 (v : Int), .slice (some ⟨w.heap.size, 0, none⟩) v v, .slice a n cap, .int .i64 (n : Int), .int .i64 (i : Int), u14, u15, u16, u17, u18, u19, u20, u21, u22, u23, u24, u25, u26, u27, u28, u29, undef], defers := rs.map markOf } ∧ i ≤ n ∧ LyI w v (lyN S i) rs A) (fun act A => n - (intOf (act.tmps.getD 13 undef)).toNat) ?start ?round
  case start => exact ⟨undef, undef, undef, undef, undef, undef, undef, undef, undef, undef, undef, undef, undef, undef, undef, undef, undef, undef, undef, 0, [], rfl, by omega, HA0.out⟩
  case round =>
    clear HA0
    rintro act A ⟨u6, u7, u8, u14, u15, u16, u17, u18, u19, u20, u21, u22, u23, u24, u25, u26, u27, u28, u29, i, rs, rfl, hi, hA⟩
    have hpos : 1 < w.heap.size := HTab.out.pos
    have hsz := hA.size
    by_cases hlt : i < n
    · have hd : decide ((i : Int) < (n : Int)) = true := by simp; omega
      have hii : (i : Int) < (n : Int) := by omega
      obtain ⟨g, off, rfl, hci0⟩ := HC.out i hlt
      have hci := hci0 A hA.bw
      have hyS := HS.out i hlt
      have hpv : (2 : Nat) ^ v ≤ 2 ^ 40 := Nat.pow_le_pow_right (by decide) hv
      have HMS : Hid (∀ k x, (pts (S.getD i 0))[k]? = some x → ∀ z, lyM S i (k + 1) z = if z = x then lyM S i k x ||| 2 ^ i else lyM S i k z) := fun k x h z => lyM_succ h z
      have HMA : Hid (∀ x, lyM S i (pts (S.getD i 0)).length x = lyN S (i + 1) x) := fun x => lyM_all (by omega)
      obtain ⟨y, Hy⟩ : ∃ y, Hid (S.getD i 0 = y) := ⟨_, rfl⟩
      rw [Hy.out] at hci hyS HMS HMA
      have b1 := balloc A (.cells #[.int .i64 (i : Int)] 3)
      have f8 : Boxed (A.alloc (.cells #[.int .i64 (i : Int)] 3)) A.heap.size 3 (.int .i64 (i : Int)) := Boxed.new A 3 _
      obtain ⟨w1, Hw1⟩ : ∃ w1, Hid (w1 = A.alloc (.cells #[.int .i64 (i : Int)] 3)) := ⟨_, rfl⟩
      have CP := points_any y w1
      have s1 : w1.heap.size = A.heap.size + 1 := by rw [Hw1.out]; simp
      rw [← Hw1.out] at f8 b1
      rw [s1] at CP
      have HS1 : Hid (w1.heap.size = A.heap.size + 1) := s1
      have HA : Hid (LyI w v (lyN S i) rs A) := hA
      clear s1 hci0 hA
      gi_wp2_with (refine ⟨trivial, ?_⟩; rw [← Hw1.out]; refine (callsIn_wide.2 CP).mono ?_; rintro e w2 ⟨rfl, hw2⟩)
      have s1 := HS1.out
      have b2 := balloc w1 (.cells #[.int .u64 (y : Int)] 72)
      have f9 := Boxed.new w1 72 (.int .u64 (y : Int))
      have s2 : (w1.alloc (.cells #[.int .u64 (y : Int)] 72)).heap.size = w1.heap.size + 1 := by simp
      rw [← hw2] at b2 f9 s2
      rw [s1] at f9
      have hAb : Below A.heap.size A w2 := b1.trans (b2.mono (by omega))
      have hT2 : Tab w2 := (HTab.out.next HA.out.bw).next hAb
      have hrs : ∀ l, A.heap.size ≤ l → l ∉ rs := fun l hl hm => by
        have := (Array.getElem?_eq_some_iff.1 (HA.out.mks l hm).2).1
        omega
      rw [← hw2]
      clear hw2 CP
      refine wpIn_runs2 (ys := pts y) (enc := encI) (Kp := KT) (Ab := AbN) (gf := 92) (lb := #[.pointer (some ⟨A.heap.size + 1, 0, none⟩)]) rfl (enters_of Tryd.func92 (by kernel_rfl) rfl)
        (points_runs y _ (A.heap.size + 1) w2 (by omega) hT2 f9) (fun _ => rfl) (fun h k => k.trans h) ?hKb (fun _ _ _ _ _ h => h.elim)
        (fun k B => LyI w v (lyM S i k) rs B ∧ Boxed B A.heap.size 3 (.int .i64 (i : Int)) ∧ w2.heap.size ≤ B.heap.size) (fun _ _ => False) ?hIp (fun _ _ _ _ h => h.elim) (fun _ _ _ _ _ _ _ h => h.elim) (fun _ _ _ _ h => h.elim) ?h0
        (fun x => { tmps := #[.int .i64 (v : Int), .slice (some ⟨g, off, none⟩) n cap, undef, undef, .slice none 0 0, .pointer (some ⟨w.heap.size + 1, 0, none⟩), .pointer (some ⟨A.heap.size, 0, none⟩), .int .u64 (y : Int), .int .i64 (x : Int), .int .i64 (v : Int), .slice (some ⟨w.heap.size, 0, none⟩) v v, .slice (some ⟨g, off, none⟩) n cap, .int .i64 (n : Int), .int .i64 (i : Int), .bool true, .int .i64 (i : Int), .pointer (some ⟨g, off + i, none⟩), .int .u64 (y : Int), .int .u64 (y : Int), .func (.func 92) #[] #[.pointer (some ⟨A.heap.size + 1, 0, none⟩)], .int .i64 (x : Int), u21, u22, u23, u24, u25, u26, u27, u28, u29, undef], defers := [] }) ?assign ?body ?done (fun _ _ h => h.elim)
      case hKb =>
        intro B o hB
        exact World.putObj_heap_other (by omega)
      case hIp =>
        rintro k B o o' ⟨g1, g2, g3⟩ _ _
        exact ⟨g1.put _ (by omega) (hrs _ (by omega)), boxAt g2 (World.putObj_heap_other (by omega)), by simpa [World.putObj] using g3⟩
      case h0 =>
        intro V hb
        exact ⟨((HA.out.below hAb).below hb).congr fun j _ => (lyM_zero S i j).symm, boxBelow (boxBelow f8 b2 (by omega)) hb (by omega), hb.size⟩
      case assign =>
        clear s1 s2
        intro l x W K _ hK
        unfold encI
        gi_wp2
        exact hK
      case body =>
        rintro k x B hx ⟨g1, g2, g3⟩ hD hrec
        have hxv : x < v := by
          have hm := pts_mem.1 (List.mem_of_getElem? hx)
          rcases Nat.lt_or_ge x v with h | h
          · exact h
          · rw [testBit_high hyS h] at hm; cases hm.2
        have hxi : (x : Int) < (v : Int) := by omega
        have q5 := g1.b.cell
        have q6 := g2.cell
        have qo := g1.o.cell x hxv
        have fo := g1.o.frozen x
        have hM1 := lyM_lt S i k x
        have hi41 : (2 : Nat) ^ (i + 1) ≤ 2 ^ 41 := Nat.pow_le_pow_right (by decide) (by omega)
        have hpi : 2 ^ i < 2 ^ 64 := pow_lt64 (by omega)
        have hor : bits .or .u64 ((lyM S i k x : Nat) : Int) ((2 ^ i : Nat) : Int) = ((lyM S i k x ||| 2 ^ i : Nat) : Int) := orN (by omega) hpi
        have CO : Hid (∀ W, Calls Tryd.prog 80 #[.int .i64 (i : Int)] W fun e w' => e = .returned (.int .u64 ((2 ^ i : Nat) : Int)) ∧ w' = W) := fun W => only_any i (by omega) W
        obtain ⟨r, Hr⟩ : ∃ r, Hid (lyM S i k x ||| 2 ^ i = r) := ⟨_, rfl⟩
        have HF : Hid (∀ C, C = B.drew.setCell ⟨w.heap.size, x, none⟩ (.int .u64 (r : Int)) → (C.heap[w2.heap.size]? = B.heap[w2.heap.size]? ∧ C.heap[w2.heap.size + 1]? = B.heap[w2.heap.size + 1]?) ∧ KT (w2.heap.size + 1) B C ∧ LyI w v (lyM S i (k + 1)) rs C ∧ Boxed C A.heap.size 3 (.int .i64 (i : Int)) ∧ w2.heap.size ≤ C.heap.size) := by
          rintro C rfl
          have oth : ∀ b, b ≠ w.heap.size → (B.drew.setCell ⟨w.heap.size, x, none⟩ (.int .u64 (r : Int))).heap[b]? = B.heap[b]? := fun b hb => heap_setCell_other B.drew ⟨w.heap.size, x, none⟩ b _ hb
          have gd : LyI w v (lyM S i k) rs B.drew := g1.below (bdrewN (Below.refl _ _) 1)
          refine ⟨⟨oth _ (by omega), oth _ (by omega)⟩, oth 1 (by omega), (gd.set x r).congr fun j _ => ?_, boxAt g2 (oth _ (by omega)), by rw [World.size_setCell]; exact g3⟩
          rw [HMS.out k x hx j, ← Hr.out]
          rfl
        rw [Hr.out] at hor
        obtain ⟨m, Hm⟩ : ∃ m, Hid (lyM S i k x = m) := ⟨_, rfl⟩
        rw [Hm.out] at hor qo
        obtain ⟨q, Hq⟩ : ∃ q, Hid (2 ^ i = q) := ⟨_, (rfl : 2 ^ i = 2 ^ i)⟩
        rw [Hq.out] at hor CO
        clear hrec hx hM1 hi41 hpi s1 s2 hpv
        gi_wp2
        refine wpIn_region_any (by kernel_rfl) (wpAnyIn_round (w2.heap.size + 1) (fun i o h c e => by revert h; revert i; intro i h; have hm := Array.mem_of_getElem? h; simp at hm; rcases hm with rfl | rfl | rfl | rfl | rfl | rfl | rfl | rfl | rfl <;> cases e) _ _ _ _ rfl ?_)
        try (change wpAnyIn _ _ _ _ _ _ _ _ _ (World.drew _))
        refine wpAnyIn_take (i := 1) (v := .int .i64 (x : Int)) rfl rfl (by kernel_rfl) (by kernel_rfl) (by kernel_rfl) (by intro _ _ _ h; first | exact h | cases h.1) ⟨Or.inl ⟨by rfl, fun w => by go_simp⟩, fun _ => rfl⟩ ?_
        refine wpAnyIn_ready (rs := [0, 4]) (by kernel_rfl) (by simp) (AllReadyIn.cons rfl (fun K hK => ?_) (AllReadyIn.cons rfl (fun K hK => ?_) AllReadyIn.nil))
        · go_simp
          refine hK _ _ ?_
          clear hK K
          refine wpAnyIn_take (i := 2) (v := .pointer (some ⟨w.heap.size, x, none⟩)) rfl rfl (by kernel_rfl) (by kernel_rfl) (by kernel_rfl) (by intro _ _ _ h; first | exact h | cases h.1) ⟨Or.inl ⟨by rfl, fun w => by go_simp⟩, fun _ => rfl⟩ ?_
          refine wpAnyIn_ready (rs := [3, 4]) (by kernel_rfl) (by simp) (AllReadyIn.cons rfl (fun K hK => ?_) (AllReadyIn.cons rfl (fun K hK => ?_) AllReadyIn.nil))
          · go_simp
            refine hK _ _ ?_
            clear hK K
            refine wpAnyIn_ready (rs := [4]) (by kernel_rfl) (by simp) (AllReadyIn.cons rfl (fun K hK => ?_) AllReadyIn.nil)
            go_simp
            refine hK _ _ ?_
            clear hK K
            refine wpAnyIn_ready (rs := [5]) (by kernel_rfl) (by simp) (AllReadyIn.cons rfl (fun K hK => ?_) AllReadyIn.nil)
            go_simp
            refine ⟨trivial, (callsIn_wide.2 (CO.out _)).mono ?_⟩
            rintro e C0 ⟨rfl, hC0⟩
            subst hC0
            refine hK _ _ ?_
            clear hK K
            refine wpAnyIn_take (i := 6) (v := .int .u64 (r : Int)) rfl rfl (by kernel_rfl) (by kernel_rfl) (by kernel_rfl) (by intro _ _ _ h; first | exact h | cases h.1) ⟨Or.inl ⟨by rfl, fun w => by go_simp⟩, fun _ => rfl⟩ ?_
            refine wpAnyIn_take (i := 7) (v := .pointer (some ⟨w.heap.size, x, none⟩)) rfl rfl (by kernel_rfl) (by kernel_rfl) (by kernel_rfl) (by intro _ _ _ h; first | exact h | cases h.1) ⟨Or.inl ⟨by rfl, fun w => by go_simp⟩, fun _ => rfl⟩ ?_
            refine wpAnyIn_ready (rs := [8]) (by kernel_rfl) (by simp) (AllReadyIn.cons rfl (fun K hK => ?_) AllReadyIn.nil)
            go_simp
            refine hK _ _ ?_
            clear hK K
            refine wpAnyIn_done (by kernel_rfl) ?_ _
            gi_wp2
            exact HF.out _ rfl
          · go_simp
            refine hK _ _ ?_
            clear hK K
            refine wpAnyIn_ready (rs := [3, 5]) (by kernel_rfl) (by simp) (AllReadyIn.cons rfl (fun K hK => ?_) (AllReadyIn.cons rfl (fun K hK => ?_) AllReadyIn.nil))
            · go_simp
              refine hK _ _ ?_
              clear hK K
              refine wpAnyIn_ready (rs := [5]) (by kernel_rfl) (by simp) (AllReadyIn.cons rfl (fun K hK => ?_) AllReadyIn.nil)
              go_simp
              refine ⟨trivial, (callsIn_wide.2 (CO.out _)).mono ?_⟩
              rintro e C0 ⟨rfl, hC0⟩
              subst hC0
              refine hK _ _ ?_
              clear hK K
              refine wpAnyIn_take (i := 6) (v := .int .u64 (r : Int)) rfl rfl (by kernel_rfl) (by kernel_rfl) (by kernel_rfl) (by intro _ _ _ h; first | exact h | cases h.1) ⟨Or.inl ⟨by rfl, fun w => by go_simp⟩, fun _ => rfl⟩ ?_
              refine wpAnyIn_take (i := 7) (v := .pointer (some ⟨w.heap.size, x, none⟩)) rfl rfl (by kernel_rfl) (by kernel_rfl) (by kernel_rfl) (by intro _ _ _ h; first | exact h | cases h.1) ⟨Or.inl ⟨by rfl, fun w => by go_simp⟩, fun _ => rfl⟩ ?_
              refine wpAnyIn_ready (rs := [8]) (by kernel_rfl) (by simp) (AllReadyIn.cons rfl (fun K hK => ?_) AllReadyIn.nil)
              go_simp
              refine hK _ _ ?_
              clear hK K
              refine wpAnyIn_done (by kernel_rfl) ?_ _
              gi_wp2
              exact HF.out _ rfl
            · go_simp
              refine ⟨trivial, (callsIn_wide.2 (CO.out _)).mono ?_⟩
              rintro e C0 ⟨rfl, hC0⟩
              subst hC0
              refine hK _ _ ?_
              clear hK K
              refine wpAnyIn_ready (rs := [3]) (by kernel_rfl) (by simp) (AllReadyIn.cons rfl (fun K hK => ?_) AllReadyIn.nil)
              go_simp
              refine hK _ _ ?_
              clear hK K
              refine wpAnyIn_take (i := 6) (v := .int .u64 (r : Int)) rfl rfl (by kernel_rfl) (by kernel_rfl) (by kernel_rfl) (by intro _ _ _ h; first | exact h | cases h.1) ⟨Or.inl ⟨by rfl, fun w => by go_simp⟩, fun _ => rfl⟩ ?_
              refine wpAnyIn_take (i := 7) (v := .pointer (some ⟨w.heap.size, x, none⟩)) rfl rfl (by kernel_rfl) (by kernel_rfl) (by kernel_rfl) (by intro _ _ _ h; first | exact h | cases h.1) ⟨Or.inl ⟨by rfl, fun w => by go_simp⟩, fun _ => rfl⟩ ?_
              refine wpAnyIn_ready (rs := [8]) (by kernel_rfl) (by simp) (AllReadyIn.cons rfl (fun K hK => ?_) AllReadyIn.nil)
              go_simp
              refine hK _ _ ?_
              clear hK K
              refine wpAnyIn_done (by kernel_rfl) ?_ _
              gi_wp2
              exact HF.out _ rfl
        · go_simp
          refine hK _ _ ?_
          clear hK K
          refine wpAnyIn_ready (rs := [0, 5]) (by kernel_rfl) (by simp) (AllReadyIn.cons rfl (fun K hK => ?_) (AllReadyIn.cons rfl (fun K hK => ?_) AllReadyIn.nil))
          · go_simp
            refine hK _ _ ?_
            clear hK K
            refine wpAnyIn_take (i := 2) (v := .pointer (some ⟨w.heap.size, x, none⟩)) rfl rfl (by kernel_rfl) (by kernel_rfl) (by kernel_rfl) (by intro _ _ _ h; first | exact h | cases h.1) ⟨Or.inl ⟨by rfl, fun w => by go_simp⟩, fun _ => rfl⟩ ?_
            refine wpAnyIn_ready (rs := [3, 5]) (by kernel_rfl) (by simp) (AllReadyIn.cons rfl (fun K hK => ?_) (AllReadyIn.cons rfl (fun K hK => ?_) AllReadyIn.nil))
            · go_simp
              refine hK _ _ ?_
              clear hK K
              refine wpAnyIn_ready (rs := [5]) (by kernel_rfl) (by simp) (AllReadyIn.cons rfl (fun K hK => ?_) AllReadyIn.nil)
              go_simp
              refine ⟨trivial, (callsIn_wide.2 (CO.out _)).mono ?_⟩
              rintro e C0 ⟨rfl, hC0⟩
              subst hC0
              refine hK _ _ ?_
              clear hK K
              refine wpAnyIn_take (i := 6) (v := .int .u64 (r : Int)) rfl rfl (by kernel_rfl) (by kernel_rfl) (by kernel_rfl) (by intro _ _ _ h; first | exact h | cases h.1) ⟨Or.inl ⟨by rfl, fun w => by go_simp⟩, fun _ => rfl⟩ ?_
              refine wpAnyIn_take (i := 7) (v := .pointer (some ⟨w.heap.size, x, none⟩)) rfl rfl (by kernel_rfl) (by kernel_rfl) (by kernel_rfl) (by intro _ _ _ h; first | exact h | cases h.1) ⟨Or.inl ⟨by rfl, fun w => by go_simp⟩, fun _ => rfl⟩ ?_
              refine wpAnyIn_ready (rs := [8]) (by kernel_rfl) (by simp) (AllReadyIn.cons rfl (fun K hK => ?_) AllReadyIn.nil)
              go_simp
              refine hK _ _ ?_
              clear hK K
              refine wpAnyIn_done (by kernel_rfl) ?_ _
              gi_wp2
              exact HF.out _ rfl
            · go_simp
              refine ⟨trivial, (callsIn_wide.2 (CO.out _)).mono ?_⟩
              rintro e C0 ⟨rfl, hC0⟩
              subst hC0
              refine hK _ _ ?_
              clear hK K
              refine wpAnyIn_ready (rs := [3]) (by kernel_rfl) (by simp) (AllReadyIn.cons rfl (fun K hK => ?_) AllReadyIn.nil)
              go_simp
              refine hK _ _ ?_
              clear hK K
              refine wpAnyIn_take (i := 6) (v := .int .u64 (r : Int)) rfl rfl (by kernel_rfl) (by kernel_rfl) (by kernel_rfl) (by intro _ _ _ h; first | exact h | cases h.1) ⟨Or.inl ⟨by rfl, fun w => by go_simp⟩, fun _ => rfl⟩ ?_
              refine wpAnyIn_take (i := 7) (v := .pointer (some ⟨w.heap.size, x, none⟩)) rfl rfl (by kernel_rfl) (by kernel_rfl) (by kernel_rfl) (by intro _ _ _ h; first | exact h | cases h.1) ⟨Or.inl ⟨by rfl, fun w => by go_simp⟩, fun _ => rfl⟩ ?_
              refine wpAnyIn_ready (rs := [8]) (by kernel_rfl) (by simp) (AllReadyIn.cons rfl (fun K hK => ?_) AllReadyIn.nil)
              go_simp
              refine hK _ _ ?_
              clear hK K
              refine wpAnyIn_done (by kernel_rfl) ?_ _
              gi_wp2
              exact HF.out _ rfl
          · go_simp
            refine ⟨trivial, (callsIn_wide.2 (CO.out _)).mono ?_⟩
            rintro e C0 ⟨rfl, hC0⟩
            subst hC0
            refine hK _ _ ?_
            clear hK K
            refine wpAnyIn_ready (rs := [0]) (by kernel_rfl) (by simp) (AllReadyIn.cons rfl (fun K hK => ?_) AllReadyIn.nil)
            go_simp
            refine hK _ _ ?_
            clear hK K
            refine wpAnyIn_take (i := 2) (v := .pointer (some ⟨w.heap.size, x, none⟩)) rfl rfl (by kernel_rfl) (by kernel_rfl) (by kernel_rfl) (by intro _ _ _ h; first | exact h | cases h.1) ⟨Or.inl ⟨by rfl, fun w => by go_simp⟩, fun _ => rfl⟩ ?_
            refine wpAnyIn_ready (rs := [3]) (by kernel_rfl) (by simp) (AllReadyIn.cons rfl (fun K hK => ?_) AllReadyIn.nil)
            go_simp
            refine hK _ _ ?_
            clear hK K
            refine wpAnyIn_take (i := 6) (v := .int .u64 (r : Int)) rfl rfl (by kernel_rfl) (by kernel_rfl) (by kernel_rfl) (by intro _ _ _ h; first | exact h | cases h.1) ⟨Or.inl ⟨by rfl, fun w => by go_simp⟩, fun _ => rfl⟩ ?_
            refine wpAnyIn_take (i := 7) (v := .pointer (some ⟨w.heap.size, x, none⟩)) rfl rfl (by kernel_rfl) (by kernel_rfl) (by kernel_rfl) (by intro _ _ _ h; first | exact h | cases h.1) ⟨Or.inl ⟨by rfl, fun w => by go_simp⟩, fun _ => rfl⟩ ?_
            refine wpAnyIn_ready (rs := [8]) (by kernel_rfl) (by simp) (AllReadyIn.cons rfl (fun K hK => ?_) AllReadyIn.nil)
            go_simp
            refine hK _ _ ?_
            clear hK K
            refine wpAnyIn_done (by kernel_rfl) ?_ _
            gi_wp2
            exact HF.out _ rfl
      case done =>
        rintro B ⟨g1, g2, g3⟩ hK
        have g4 : LyI w v (lyN S (i + 1)) rs B := g1.congr fun j _ => HMA.out j
        have n3 : LyI w v (lyN S (i + 1)) (w2.heap.size :: rs) B := ⟨g4.o, g4.b, List.nodup_cons.2 ⟨hrs _ (by omega), g4.nd⟩, fun q hq => by
          rcases List.mem_cons.1 hq with rfl | hq
          · exact ⟨by omega, hK⟩
          · exact g4.mks q hq, g4.bw⟩
        clear s1 s2 g1 g2 g3 g4
        gi_wp2
        refine ⟨⟨_, _, _, _, _, _, _, _, _, _, _, _, _, _, _, _, _, _, _, i + 1, w2.heap.size :: rs, rfl, by omega, n3⟩, ?_⟩
        show n - ((i : Int) + 1).toNat < n - ((i : Int)).toNat
        omega
    · have hd : decide ((i : Int) < (n : Int)) = false := by simp; omega
      obtain rfl : i = n := by omega
      have q5 := hA.b.cell
      gi_wp2
      refine marks_leave2 (m := w.heap.size + 2) rs A hA.nd hA.mks fun D hb hc => ?_
      refine ⟨_, results_tmp (t := 4) rfl _ _ _, .slice (some ⟨w.heap.size, 0, none⟩) v v, rfl, hfin.out D ?_, hA.bw.trans (hb.mono (by omega))⟩
      obtain ⟨cur, h1, h2⟩ := hA.o
      exact ⟨cur, hc.2 _ _ h1 rfl, h2⟩

end Go.Proofs.YtgpkhfpejopacaaDoor

/- The walk of Dual. -/
namespace Go.Proofs.YtgpkhfpejopacaaDoor
open Go.RowKit Go.Shelf

attribute [local go_sem] Oper.semAt_some

theorem am_ly {B : List (List Nat)} (h40 : B.length ≤ 40) (x : Nat) : amL (2 ^ B.length - 1) (lyN (B.map sb) B.length x &&& (2 ^ B.length - 1)) = dz B x := by
  have e0 : lyN (B.map sb) B.length x = sb (dz B x) := by
    unfold lyN dz
    congr 1
    refine List.filter_congr fun j hj => ?_
    rw [getD_map B (List.mem_range.1 hj), sb_bit]
  have hd : ∀ j ∈ dz B x, j < B.length := fun j hj => List.mem_range.1 (List.mem_filter.1 hj).1
  have hr : (dz B x).Pairwise (· < ·) := List.Pairwise.filter _ List.pairwise_lt_range
  have e1 : sb (dz B x) &&& (2 ^ B.length - 1) = sb (dz B x) := by
    rw [Nat.and_two_pow_sub_one_eq_mod, Nat.mod_eq_of_lt (sb_lt hd)]
  have e2 : pts (sb (dz B x)) = dz B x := pts_sb hr fun j hj => by have := hd j hj; omega
  rw [e0, e1, am_all (by omega) (by rw [e2]; exact hd), e2]
theorem SC.below {w w' : World} {v : Value} {S : List Nat} (h : SC w v S) (hb : Below w.heap.size w w') : SC w' v S := by
  obtain ⟨a, cap, h1, h2, h3, h4⟩ := h
  exact ⟨a, cap, h1, h2, h3, fun j hj => by
    obtain ⟨g, off, e, h⟩ := h4 j hj
    exact ⟨g, off, e, fun W hW => h W (Below.next hb hW)⟩⟩
theorem good_sbv {v : Nat} {B : List (List Nat)} (G : GoodD v B) : ∀ x ∈ B.map sb, x < 2 ^ v := fun x hx => by
  obtain ⟨b, hb, rfl⟩ := List.mem_map.1 hx
  exact sb_lt (G.bls b hb).lt

set_option maxRecDepth 100000 in
set_option maxHeartbeats 4000000 in
theorem Dual_bad (p : Int) (ls : List (List Int)) (v : Value) (w : World) (hv : Rw w v ls) (hl : ls.length ≤ maxLen) (hll : ∀ l ∈ ls, l.length ≤ maxLen) (hz : dF p ls ≠ 0) :
    Calls Tryd.prog 26 #[.agg #[.int .i64 p, v]] w fun e w' => e = .returned (.tuple #[.agg #[.int .i64 0, .slice none 0 0], .int .i64 (dF p ls : Int)]) ∧ Below w.heap.size w w' := by
  have b0 := balloc w (.cells #[.int .i64 p, v] 29)
  obtain ⟨x0, x1⟩ := des_box p v w _ (balloc (w.alloc (.cells #[.int .i64 p, v] 29)) (.cells #[.int .i64 0, .slice none 0 0] 29))
  have b1 : Below w.heap.size w ((w.alloc (.cells #[.int .i64 p, v] 29)).alloc (.cells #[.int .i64 0, .slice none 0 0] 29)) := b0.alloc (by simp) _
  have hr := heap_alloc_new (w.alloc (.cells #[.int .i64 p, v] 29)) (.cells #[.int .i64 0, .slice none 0 0] 29)
  rw [World.size_alloc] at hr
  have C1 := open_any p ls v _ (hv.below b1) hl hll
  generalize dF p ls = z at *
  have hd : ((z : Int) != 0) = true := by simp; omega
  obtain ⟨w1, Hw1⟩ : ∃ w1, Hid (w1 = (w.alloc (.cells #[.int .i64 p, v] 29)).alloc (.cells #[.int .i64 0, .slice none 0 0] 29)) := ⟨_, rfl⟩
  have HR : Hid (∀ W, Below w1.heap.size w1 W → W.heap[w.heap.size + 1]? = some (.cells #[.int .i64 0, .slice none 0 0] 29 (0, 0))) := fun W hW => (hW.block _ (by rw [Hw1.out]; simp)).trans (by rw [Hw1.out]; exact hr)
  rw [← Hw1.out] at b1
  obtain ⟨ua, uc, eu⟩ := rw_form hv
  clear hv hl hll hr
  subst eu
  generalize ls.length = n at *
  go_enter Tryd.func26, Tryd.ntmps26
  go_wp2_with (go_at_call 49; refine C1.mono ?_; rintro e w3 ⟨⟨x, rfl, _, _⟩, hb3⟩; clear C1; rw [← Hw1.out] at hb3; have h5 := HR.out _ hb3; have y0 : w3.cell? ⟨w.heap.size + 1, 0, none⟩ = some (.int .i64 0) := (by rw [cell_of_row _ _ _ _ _ _ h5]; rfl); have y1 : w3.cell? ⟨w.heap.size + 1, 1, none⟩ = some (.slice none 0 0) := (by rw [cell_of_row _ _ _ _ _ _ h5]; rfl); have z0 : w3.frozen? ⟨w.heap.size + 1, 0, none⟩ = false := frozen_of_row _ _ _ _ _ h5; have z1 : w3.frozen? ⟨w.heap.size + 1, 1, none⟩ = false := frozen_of_row _ _ _ _ _ h5)
  have h6 := heap_setCell_same w3 (w.heap.size + 1) 0 _ 29 (.int .i64 0) h5
  have h7 := heap_setCell_same _ (w.heap.size + 1) 1 _ 29 (.slice none 0 0) h6
  exact post_d2 2 3 rfl rfl (by simpa using h7) rfl rfl ⟨rfl, ((Below.next b1 hb3).setCell (p := ⟨w.heap.size + 1, 0, none⟩) (by show _ ≤ w.heap.size + 1; omega) _).setCell (p := ⟨w.heap.size + 1, 1, none⟩) (by show _ ≤ w.heap.size + 1; omega) _⟩

set_option maxRecDepth 100000 in
set_option maxHeartbeats 4000000 in
theorem Dual_full (v : Nat) (B : List (List Nat)) (u : Value) (w : World) (G : GoodD v B) (hu : Rw w u (toZ B)) (hl : 40 < B.length) :
    Calls Tryd.prog 26 #[.agg #[.int .i64 (v : Int), u]] w fun e w' => e = .returned (.tuple #[.agg #[.int .i64 0, .slice none 0 0], .int .i64 3]) ∧ Below w.heap.size w w' := by
  have b0 := balloc w (.cells #[.int .i64 (v : Int), u] 29)
  obtain ⟨x0, x1⟩ := des_box v u w _ (balloc (w.alloc (.cells #[.int .i64 (v : Int), u] 29)) (.cells #[.int .i64 0, .slice none 0 0] 29))
  have b1 : Below w.heap.size w ((w.alloc (.cells #[.int .i64 (v : Int), u] 29)).alloc (.cells #[.int .i64 0, .slice none 0 0] 29)) := b0.alloc (by simp) _
  have hr := heap_alloc_new (w.alloc (.cells #[.int .i64 (v : Int), u] 29)) (.cells #[.int .i64 0, .slice none 0 0] 29)
  rw [World.size_alloc] at hr
  have C1 := open_good v B u _ G (hu.below b1)
  have hd : decide ((B.length : Int) > 40) = true := by simp; omega
  have hd2 : (40 : Int) < (B.length : Int) := by omega
  obtain ⟨w1, Hw1⟩ : ∃ w1, Hid (w1 = (w.alloc (.cells #[.int .i64 (v : Int), u] 29)).alloc (.cells #[.int .i64 0, .slice none 0 0] 29)) := ⟨_, rfl⟩
  have HR : Hid (∀ W, Below w1.heap.size w1 W → W.heap[w.heap.size + 1]? = some (.cells #[.int .i64 0, .slice none 0 0] 29 (0, 0))) := fun W hW => (hW.block _ (by rw [Hw1.out]; simp)).trans (by rw [Hw1.out]; exact hr)
  rw [← Hw1.out] at b1
  obtain ⟨ua, uc, eu⟩ := rw_form hu
  clear hu hr G
  subst eu
  rw [toZ_len] at *
  go_enter Tryd.func26, Tryd.ntmps26
  go_wp2_with (go_at_call 49; refine C1.mono ?_; rintro e w3 ⟨⟨x, rfl, hrow⟩, hb3⟩; clear C1; rw [← Hw1.out] at hb3; obtain ⟨xa, xc, ex⟩ := own_formE hrow; subst ex; clear hrow; have h5 := HR.out _ hb3; have y0 : w3.cell? ⟨w.heap.size + 1, 0, none⟩ = some (.int .i64 0) := (by rw [cell_of_row _ _ _ _ _ _ h5]; rfl); have y1 : w3.cell? ⟨w.heap.size + 1, 1, none⟩ = some (.slice none 0 0) := (by rw [cell_of_row _ _ _ _ _ _ h5]; rfl); have z0 : w3.frozen? ⟨w.heap.size + 1, 0, none⟩ = false := frozen_of_row _ _ _ _ _ h5; have z1 : w3.frozen? ⟨w.heap.size + 1, 1, none⟩ = false := frozen_of_row _ _ _ _ _ h5)
  have h6 := heap_setCell_same w3 (w.heap.size + 1) 0 _ 29 (.int .i64 0) h5
  have h7 := heap_setCell_same _ (w.heap.size + 1) 1 _ 29 (.slice none 0 0) h6
  exact post_d2 2 3 rfl rfl (by simpa using h7) rfl rfl ⟨rfl, ((Below.next b1 hb3).setCell (p := ⟨w.heap.size + 1, 0, none⟩) (by show _ ≤ w.heap.size + 1; omega) _).setCell (p := ⟨w.heap.size + 1, 1, none⟩) (by show _ ≤ w.heap.size + 1; omega) _⟩

set_option maxRecDepth 100000 in
set_option maxHeartbeats 4000000 in
theorem Dual_none (v : Nat) (B : List (List Nat)) (u : Value) (w : World) (G : GoodD v B) (hu : Rw w u (toZ B)) (hl : B.length = 0) :
    Calls Tryd.prog 26 #[.agg #[.int .i64 (v : Int), u]] w fun e w' => e = .returned (.tuple #[.agg #[.int .i64 0, .slice none 0 0], .int .i64 4]) ∧ Below w.heap.size w w' := by
  obtain rfl : B = [] := List.length_eq_zero_iff.1 hl
  have b0 := balloc w (.cells #[.int .i64 (v : Int), u] 29)
  obtain ⟨x0, x1⟩ := des_box v u w _ (balloc (w.alloc (.cells #[.int .i64 (v : Int), u] 29)) (.cells #[.int .i64 0, .slice none 0 0] 29))
  have b1 : Below w.heap.size w ((w.alloc (.cells #[.int .i64 (v : Int), u] 29)).alloc (.cells #[.int .i64 0, .slice none 0 0] 29)) := b0.alloc (by simp) _
  have hr := heap_alloc_new (w.alloc (.cells #[.int .i64 (v : Int), u] 29)) (.cells #[.int .i64 0, .slice none 0 0] 29)
  rw [World.size_alloc] at hr
  have C1 := open_good v [] u _ G (hu.below b1)
  obtain ⟨w1, Hw1⟩ : ∃ w1, Hid (w1 = (w.alloc (.cells #[.int .i64 (v : Int), u] 29)).alloc (.cells #[.int .i64 0, .slice none 0 0] 29)) := ⟨_, rfl⟩
  have HR : Hid (∀ W, Below w1.heap.size w1 W → W.heap[w.heap.size + 1]? = some (.cells #[.int .i64 0, .slice none 0 0] 29 (0, 0))) := fun W hW => (hW.block _ (by rw [Hw1.out]; simp)).trans (by rw [Hw1.out]; exact hr)
  rw [← Hw1.out] at b1
  obtain ⟨ua, uc, eu⟩ := rw_form hu
  rw [show (toZ []).length = 0 from rfl] at eu
  clear hu hr G hl
  subst eu
  go_enter Tryd.func26, Tryd.ntmps26
  go_wp2_with (go_at_call 49; refine C1.mono ?_; rintro e w3 ⟨⟨x, rfl, hrow⟩, hb3⟩; clear C1; rw [← Hw1.out] at hb3; obtain ⟨xa, xc, ex⟩ := own_formE hrow; simp only [List.map_nil, List.length_nil] at ex; subst ex; clear hrow; have h5 := HR.out _ hb3; have y0 : w3.cell? ⟨w.heap.size + 1, 0, none⟩ = some (.int .i64 0) := (by rw [cell_of_row _ _ _ _ _ _ h5]; rfl); have y1 : w3.cell? ⟨w.heap.size + 1, 1, none⟩ = some (.slice none 0 0) := (by rw [cell_of_row _ _ _ _ _ _ h5]; rfl); have z0 : w3.frozen? ⟨w.heap.size + 1, 0, none⟩ = false := frozen_of_row _ _ _ _ _ h5; have z1 : w3.frozen? ⟨w.heap.size + 1, 1, none⟩ = false := frozen_of_row _ _ _ _ _ h5)
  have h6 := heap_setCell_same w3 (w.heap.size + 1) 0 _ 29 (.int .i64 0) h5
  have h7 := heap_setCell_same _ (w.heap.size + 1) 1 _ 29 (.slice none 0 0) h6
  exact post_d2 2 3 rfl rfl (by simpa using h7) rfl rfl ⟨rfl, ((Below.next b1 hb3).setCell (p := ⟨w.heap.size + 1, 0, none⟩) (by show _ ≤ w.heap.size + 1; omega) _).setCell (p := ⟨w.heap.size + 1, 1, none⟩) (by show _ ≤ w.heap.size + 1; omega) _⟩

end Go.Proofs.YtgpkhfpejopacaaDoor

namespace Go.Proofs.YtgpkhfpejopacaaDoor
open Go.RowKit Go.Shelf

attribute [local go_sem] Oper.semAt_some

set_option maxRecDepth 100000 in
set_option maxHeartbeats 1000000 in
theorem Dual_good (v : Nat) (B : List (List Nat)) (u : Value) (w : World) (hT : Tab w) (G : GoodD v B) (hu : Rw w u (toZ B)) (hne : 0 < B.length) (h40 : B.length ≤ 40) :
    Calls Tryd.prog 26 #[.agg #[.int .i64 (v : Int), u]] w fun e w' => ∃ y, e = .returned (.tuple #[.agg #[.int .i64 (B.length : Int), y], .int .i64 0]) ∧ Rw w' y (toZ (dual v B)) ∧ Below w.heap.size w w' := by
  refine (callsIn_wide (n := 4)).1 ?_
  have b0 := balloc w (.cells #[.int .i64 (v : Int), u] 29)
  obtain ⟨x0, x1⟩ := des_box v u w _ (balloc (w.alloc (.cells #[.int .i64 (v : Int), u] 29)) (.cells #[.int .i64 0, .slice none 0 0] 29))
  have b1 : Below w.heap.size w ((w.alloc (.cells #[.int .i64 (v : Int), u] 29)).alloc (.cells #[.int .i64 0, .slice none 0 0] 29)) := b0.alloc (by simp) _
  have hr := heap_alloc_new (w.alloc (.cells #[.int .i64 (v : Int), u] 29)) (.cells #[.int .i64 0, .slice none 0 0] 29)
  rw [World.size_alloc] at hr
  have C1 := open_good v B u _ G (hu.below b1)
  obtain ⟨w1, Hw1⟩ : ∃ w1, Hid (w1 = (w.alloc (.cells #[.int .i64 (v : Int), u] 29)).alloc (.cells #[.int .i64 0, .slice none 0 0] 29)) := ⟨_, rfl⟩
  have s1 : w1.heap.size = w.heap.size + 2 := by rw [Hw1.out]; simp
  have HR : Hid (∀ W, Below w1.heap.size w1 W → W.heap[w.heap.size + 1]? = some (.cells #[.int .i64 0, .slice none 0 0] 29 (0, 0))) := fun W hW => (hW.block _ (by rw [s1]; omega)).trans (by rw [Hw1.out]; exact hr)
  have HV : Hid (∀ W, Below w1.heap.size w1 W → W.cell? ⟨w.heap.size, 0, none⟩ = some (.int .i64 (v : Int))) := fun W hW => (hW.cell (p := ⟨w.heap.size, 0, none⟩) (by show w.heap.size < _; rw [s1]; omega)).trans (by rw [Hw1.out]; exact x0)
  rw [← Hw1.out] at b1 C1
  have hv40 := G.le
  have HS1 : Hid (w1.heap.size = w.heap.size + 2) := s1
  have hT1 : Hid (Tab w1) := hT.next b1
  have CB : Hid (∀ W, Calls Tryd.prog 51 #[.int .i64 (B.length : Int)] W fun e w' => e = .returned (.int .u64 ((2 ^ B.length - 1 : Nat) : Int)) ∧ w' = W) := fun W => below_any B.length (by omega) W
  have HLY : Hid (∀ (x : Value) (W : World), Tab W → SC W x (B.map sb) → Calls Tryd.prog 52 #[.int .i64 (v : Int), x] W fun e w' => ∃ z, e = .returned z ∧ SC w' z ((List.range v).map (lyN (B.map sb) B.length)) ∧ Below W.heap.size W w') := fun x W hTW hx => by
    have h := lying_any v (B.map sb) x W hTW hx hv40 (by rw [List.length_map]; exact h40) (good_sbv G)
    rw [List.length_map] at h
    exact h
  have HAM : Hid (∀ (x : Value) (W : World), Tab W → SC W x ((List.range v).map (lyN (B.map sb) B.length)) → Calls Tryd.prog 50 #[.int .u64 ((2 ^ B.length - 1 : Nat) : Int), x] W fun e w' => ∃ y, e = .returned (.agg #[.int .i64 (B.length : Int), y]) ∧ OR w' (W.heap.size + 3) y (dual v B) ∧ Below W.heap.size W w') := fun x W hTW hx => by
    refine (among_any (2 ^ B.length - 1) _ x W hTW hx (by rw [List.length_map, List.length_range]; omega) (fun q hq => ?_) (low_lt (by omega))).mono ?_
    · obtain ⟨b, _, rfl⟩ := List.mem_map.1 hq
      exact Nat.lt_of_lt_of_le (ly_lt _ _ _) (Nat.pow_le_pow_right (by decide) h40)
    · rintro e w' ⟨y, rfl, h1, h2⟩
      rw [pc_all (by omega)]
      refine ⟨y, rfl, ?_, h2⟩
      have e1 : ((List.range v).map (lyN (B.map sb) B.length)).map (fun y => amL (2 ^ B.length - 1) (y &&& (2 ^ B.length - 1))) = dual v B := by
        rw [List.map_map]
        exact List.map_congr_left fun x _ => am_ly h40 x
      rw [e1] at h1
      exact h1
  obtain ⟨al, Hal⟩ : ∃ al, Hid (2 ^ B.length - 1 = al) := ⟨_, (rfl : 2 ^ B.length - 1 = 2 ^ B.length - 1)⟩
  rw [Hal.out] at CB HAM
  have HD : Hid ((dual v B).length = v) := dual_len v B
  obtain ⟨D, eD⟩ : ∃ D, Hid (dual v B = D) := ⟨_, rfl⟩
  rw [eD.out] at HAM HD ⊢
  obtain ⟨LS, eLS⟩ : ∃ D, Hid ((List.range v).map (lyN (B.map sb) B.length) = D) := ⟨_, rfl⟩
  rw [eLS.out] at HAM HLY
  obtain ⟨ua, uc, eu⟩ := rw_form hu
  clear hu hr s1 G hT b0
  subst eu
  rw [toZ_len] at *
  obtain ⟨BS, eBS⟩ : ∃ D, Hid (B.map sb = D) := ⟨_, rfl⟩
  have HBL : Hid (BS.length = B.length) := by rw [← eBS.out]; exact List.length_map ..
  rw [eBS.out] at C1 HLY
  generalize B.length = n at *
  have hd0 : ((n : Int) == 0) = false := by simp; omega
  have hd1 : decide ((n : Int) > 40) = false := by simp; omega
  have hd2 : decide ((40 : Int) < n) = false := by simp; omega
  clear eBS Hal eD eLS
  refine callsIn_of_wp Tryd.func26 rfl trivial ?_ rfl
  simp only [Tryd.ntmps26, List.size_toArray, List.length_cons, List.length_nil, Nat.reduceAdd, Nat.reduceSub, Array.replicate_succ, Array.replicate_zero, List.push_toArray, List.append_toArray, List.nil_append, List.cons_append]
  gi_wp2_with (refine ⟨trivial, ?_⟩; rw [← Hw1.out]; refine (callsIn_wide.2 C1).mono ?_; rintro e w3 ⟨⟨x, rfl, hrow⟩, hb3⟩; clear C1; have y0 := HV.out _ hb3; obtain ⟨xa, xc, ex⟩ := own_formE hrow; rw [HBL.out] at ex; have HROW : Hid (SC w3 x BS) := hrow.sc; clear hrow; subst ex)
  refine wpIn_region_any (by kernel_rfl) ?_
  try (change wpAnyIn _ _ _ _ _ _ _ _ _ (World.drew _))
  refine wpAnyIn_take (i := 0) (v := .slice xa n xc) rfl rfl (by kernel_rfl) (by kernel_rfl) (by kernel_rfl) (by intro _ _ _ h; first | exact h | cases h.1) ⟨Or.inl ⟨by rfl, fun w => by go_simp⟩, fun _ => rfl⟩ ?_
  refine wpAnyIn_take (i := 1) (v := .int .i64 (n : Int)) rfl rfl (by kernel_rfl) (by kernel_rfl) (by kernel_rfl) (by intro _ _ _ h; first | exact h | cases h.1) ⟨Or.inl ⟨by rfl, fun w => by go_simp⟩, fun _ => rfl⟩ ?_
  refine wpAnyIn_take (i := 3) (v := .pointer (some ⟨w.heap.size, 0, none⟩)) rfl rfl (by kernel_rfl) (by kernel_rfl) (by kernel_rfl) (by intro _ _ _ h; first | exact h | cases h.1) ⟨Or.inl ⟨by rfl, fun w => by go_simp⟩, fun _ => rfl⟩ ?_
  refine wpAnyIn_take (i := 5) (v := .slice xa n xc) rfl rfl (by kernel_rfl) (by kernel_rfl) (by kernel_rfl) (by intro _ _ _ h; first | exact h | cases h.1) ⟨Or.inl ⟨by rfl, fun w => by go_simp⟩, fun _ => rfl⟩ ?_
  refine wpAnyIn_ready (rs := [2, 4]) (by kernel_rfl) (by simp) (AllReadyIn.cons rfl (fun K hK => ?_) (AllReadyIn.cons rfl (fun K hK => ?_) AllReadyIn.nil))
  · go_simp
    refine ⟨trivial, (callsIn_wide.2 (CB.out _)).mono ?_⟩
    rintro e C0 ⟨rfl, hC0⟩
    subst hC0
    refine hK _ _ ?_
    clear hK K
    refine wpAnyIn_ready (rs := [4]) (by kernel_rfl) (by simp) (AllReadyIn.cons rfl (fun K hK => ?_) AllReadyIn.nil)
    go_simp
    refine hK _ _ ?_
    clear hK K
    refine wpAnyIn_ready (rs := [6]) (by kernel_rfl) (by simp) (AllReadyIn.cons rfl (fun K hK => ?_) AllReadyIn.nil)
    go_simp
    refine ⟨trivial, (callsIn_wide.2 (HLY.out _ _ (hT1.out.next (bdrewN hb3 1)) (HROW.out.below (bdrewN (Below.refl _ _) 1)))).mono ?_⟩
    rintro e w4 ⟨z, rfl, hz, hb4⟩
    replace hb4 := Below.next (bdrewN hb3 1) hb4
    refine hK _ _ ?_
    clear hK K
    refine wpAnyIn_ready (rs := [7]) (by kernel_rfl) (by simp) (AllReadyIn.cons rfl (fun K hK => ?_) AllReadyIn.nil)
    go_simp
    refine ⟨trivial, (callsIn_wide.2 (HAM.out _ _ (hT1.out.next hb4) hz)).mono ?_⟩
    rintro e w5 ⟨y, rfl, hy, hb5⟩
    have hle4 := hb4.size
    replace hb5 := Below.next hb4 hb5
    have h5 := HR.out _ hb5
    have z0 : w5.frozen? ⟨w.heap.size + 1, 0, none⟩ = false := frozen_of_row _ _ _ _ _ h5
    have z1 : w5.frozen? ⟨w.heap.size + 1, 1, none⟩ = false := frozen_of_row _ _ _ _ _ h5
    have y0' : w5.cell? ⟨w.heap.size + 1, 0, none⟩ = some (.int .i64 0) := (by rw [cell_of_row _ _ _ _ _ _ h5]; rfl)
    have y1' : w5.cell? ⟨w.heap.size + 1, 1, none⟩ = some (.slice none 0 0) := (by rw [cell_of_row _ _ _ _ _ _ h5]; rfl)
    obtain ⟨ya, yc, ey⟩ := hy.cap
    subst ey
    refine hK _ _ ?_
    clear hK K
    refine wpAnyIn_ready (rs := [8]) (by kernel_rfl) (by simp) (AllReadyIn.cons rfl (fun K hK => ?_) AllReadyIn.nil)
    go_simp
    refine hK _ _ ?_
    clear hK K
    refine wpAnyIn_take (i := 9) (v := .int .i64 0) rfl rfl (by kernel_rfl) (by kernel_rfl) (by kernel_rfl) (by intro _ _ _ h; first | exact h | cases h.1) ⟨Or.inl ⟨by rfl, fun w => by go_simp⟩, fun _ => rfl⟩ ?_
    refine wpAnyIn_done (by kernel_rfl) ?_ _
    gi_wp2
    have s1 := HS1.out
    obtain ⟨t1, t2, t3⟩ := res_store (w0 := w) (p := n) (y := .slice ya D.length yc) h5 (by omega)
    exact post_d2 2 3 rfl rfl t1 rfl rfl ⟨_, rfl, rw_above (r := w.heap.size + 1) hy (by omega) t2, (b1.trans (hb5.mono b1.size)).trans t3⟩
  · go_simp
    refine hK _ _ ?_
    clear hK K
    refine wpAnyIn_ready (rs := [2]) (by kernel_rfl) (by simp) (AllReadyIn.cons rfl (fun K hK => ?_) AllReadyIn.nil)
    go_simp
    refine ⟨trivial, (callsIn_wide.2 (CB.out _)).mono ?_⟩
    rintro e C0 ⟨rfl, hC0⟩
    subst hC0
    refine hK _ _ ?_
    clear hK K
    refine wpAnyIn_ready (rs := [6]) (by kernel_rfl) (by simp) (AllReadyIn.cons rfl (fun K hK => ?_) AllReadyIn.nil)
    go_simp
    refine ⟨trivial, (callsIn_wide.2 (HLY.out _ _ (hT1.out.next (bdrewN hb3 1)) (HROW.out.below (bdrewN (Below.refl _ _) 1)))).mono ?_⟩
    rintro e w4 ⟨z, rfl, hz, hb4⟩
    replace hb4 := Below.next (bdrewN hb3 1) hb4
    refine hK _ _ ?_
    clear hK K
    refine wpAnyIn_ready (rs := [7]) (by kernel_rfl) (by simp) (AllReadyIn.cons rfl (fun K hK => ?_) AllReadyIn.nil)
    go_simp
    refine ⟨trivial, (callsIn_wide.2 (HAM.out _ _ (hT1.out.next hb4) hz)).mono ?_⟩
    rintro e w5 ⟨y, rfl, hy, hb5⟩
    have hle4 := hb4.size
    replace hb5 := Below.next hb4 hb5
    have h5 := HR.out _ hb5
    have z0 : w5.frozen? ⟨w.heap.size + 1, 0, none⟩ = false := frozen_of_row _ _ _ _ _ h5
    have z1 : w5.frozen? ⟨w.heap.size + 1, 1, none⟩ = false := frozen_of_row _ _ _ _ _ h5
    have y0' : w5.cell? ⟨w.heap.size + 1, 0, none⟩ = some (.int .i64 0) := (by rw [cell_of_row _ _ _ _ _ _ h5]; rfl)
    have y1' : w5.cell? ⟨w.heap.size + 1, 1, none⟩ = some (.slice none 0 0) := (by rw [cell_of_row _ _ _ _ _ _ h5]; rfl)
    obtain ⟨ya, yc, ey⟩ := hy.cap
    subst ey
    refine hK _ _ ?_
    clear hK K
    refine wpAnyIn_ready (rs := [8]) (by kernel_rfl) (by simp) (AllReadyIn.cons rfl (fun K hK => ?_) AllReadyIn.nil)
    go_simp
    refine hK _ _ ?_
    clear hK K
    refine wpAnyIn_take (i := 9) (v := .int .i64 0) rfl rfl (by kernel_rfl) (by kernel_rfl) (by kernel_rfl) (by intro _ _ _ h; first | exact h | cases h.1) ⟨Or.inl ⟨by rfl, fun w => by go_simp⟩, fun _ => rfl⟩ ?_
    refine wpAnyIn_done (by kernel_rfl) ?_ _
    gi_wp2
    have s1 := HS1.out
    obtain ⟨t1, t2, t3⟩ := res_store (w0 := w) (p := n) (y := .slice ya D.length yc) h5 (by omega)
    exact post_d2 2 3 rfl rfl t1 rfl rfl ⟨_, rfl, rw_above (r := w.heap.size + 1) hy (by omega) t2, (b1.trans (hb5.mono b1.size)).trans t3⟩

end Go.Proofs.YtgpkhfpejopacaaDoor
