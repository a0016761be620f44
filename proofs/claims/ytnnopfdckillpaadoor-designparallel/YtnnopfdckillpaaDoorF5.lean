/- The walk of among: what blocks have of the points that are kept, numbered anew. -/
import Derived.Test.YtnnopfdckillpaaDoorF2
import Derived.Test.YtnnopfdckillpaaDoorDCo
namespace Go.Proofs.YtnnopfdckillpaaDoor
open Go.RowKit Go.Shelf

attribute [local go_sem] Oper.semAt_some

/-- What lies in cells lies there as it lay. -/
def CK (A B : World) : Prop := A.heap.size ≤ B.heap.size ∧ ∀ (b : Nat) (o : Obj), A.heap[b]? = some o → o.isCells = true → B.heap[b]? = some o
theorem CK.refl (A : World) : CK A A := ⟨Nat.le_refl _, fun _ _ h _ => h⟩
theorem CK.trans {A B C : World} (h : CK A B) (k : CK B C) : CK A C := ⟨Nat.le_trans h.1 k.1, fun b o h1 h2 => k.2 b o (h.2 b o h1 h2) h2⟩
theorem CK.put {A : World} {l : Nat} {o : Obj} (h : A.heap[l]? = some o) (hc : o.isCells = false) (o' : Obj) : CK A (A.putObj l o') :=
  ⟨by simp [World.putObj], fun b q h1 h2 => (World.putObj_heap_other (fun e => by subst e; rw [h] at h1; cases h1; rw [hc] at h2; cases h2)).trans h1⟩
theorem CK.row {A B : World} (k : CK A B) {base : Nat} {e : TypeId} {v : Value} {n : Nat} {xs : List Value} (h : A.ownsRow base e 1 v n xs) : B.ownsRow base e 1 v n xs := by
  obtain ⟨h3, h4 | ⟨g, cap, cur, h5, h6, h7, h8⟩⟩ := h
  · exact ⟨h3, .inl h4⟩
  · exact ⟨h3, .inr ⟨g, cap, cur, h5, h6, k.2 g _ h7 rfl, h8⟩⟩
theorem CK.or {A B : World} (k : CK A B) {base : Nat} {v : Value} {ls : List (List Nat)} (h : OR A base v ls) : OR B base v ls := by
  obtain ⟨vals, h1, h2⟩ := h
  exact ⟨vals, k.row h1, fun i u l hu hl => k.row (h2 i u l hu hl)⟩
/-- All marks are taken over, at the function's end; what it hands back is told behind them. -/
theorem marks_leave2 {F : Fence} {n : Nat} {P : Program} {fn : Func} {tmps : Array Value} {R : Ending → World → Prop} {m : Nat} : ∀ (rs : List Nat) (A : World), rs.Nodup → (∀ r ∈ rs, m ≤ r ∧ A.heap[r]? = some (.deferred (some []))) → (∀ B, Below m A B → CK A B → ∃ v, (results fn tmps).run P B = .ok v B ∧ R (.returned v) B) → LeavesInM F n P fn tmps R (rs.map markOf) .returning A := by
  intro rs
  induction rs with
  | nil =>
    intro A _ _ hR
    exact hR A (Below.refl _ _) (CK.refl _)
  | cons r rs ih =>
    intro A hn hm hR
    obtain ⟨h1, h2⟩ := hm r List.mem_cons_self
    obtain ⟨h3, h4⟩ := List.nodup_cons.1 hn
    refine ⟨by simp, .inl ⟨r, _, rfl, run_takeDeferred h2, ih _ h4 (fun q hq => ?_) fun B hb hc => hR B ((below_put A _ h1).trans hb) ((CK.put h2 rfl _).trans hc)⟩⟩
    refine ⟨(hm q (List.mem_cons_of_mem _ hq)).1, (World.putObj_heap_other (show q ≠ r from fun e => h3 (e ▸ hq))).trans (hm q (List.mem_cons_of_mem _ hq)).2⟩
/-- An append onto a row of the call's own, as one step of a region that draws its order, inside a fence. -/
theorem stepIn_append_own {F : Fence} {n : Nat} {P : Program} {ops : Array Oper} {o : Oper} {a : Act} {w : World} {K : Act → World → Prop} {Q : Exit → Act → World → Prop} {E : Prop}
    (hg : o.guard = none) (s x : Operand) (t : TypeId) (hop : o.op = Op.call { callee := Callee.builtin Builtin.append, args := #[s, x], argTypes := #[t, t] })
    (base : Nat) (e : TypeId) (i : TypeInfo) (z : Value) (size bytes : Nat) (h1 : P.underlying t = some (.slice e)) (h2 : P.info? e = some i) (h3 : i.zero = some z) (h4 : i.size = size) (h5 : i.bytes = bytes) (h6 : z.cells.size = size) (h7 : 0 < size)
    (v : Value) (k : Nat) (xs : List Value) (hs : a.eval s = v) (hown : w.ownsRow base e size v k xs) (ad : Addr) (m c : Nat) (news : List Value) (hx : a.eval x = .slice (some ad) m c) (hn : news.length = m * size)
    (hc : ∀ j u, news[j]? = some u → w.cell? (ad.add j) = some u) (h1c : ∀ u ∈ news, u.oneCell' = true) (b1 : k + m ≤ maxLen) (b2 : (k + m) * bytes ≤ 140737488355328) (b3 : base ≤ w.heap.size)
    (hK : ∀ v' w', w'.ownsRow base e size v' (k + m) (xs ++ news) → w.grownBy w' v.ownBlock → K (a.put o.dst v') w') :
    if Region.wanted o (yielded ops a.tmps) = true then Oper.wpIn F n P o a w K Q else E := by
  have hw : Region.wanted o (yielded ops a.tmps) = true := by simp [Region.wanted, hg]
  rw [if_pos hw]
  obtain ⟨v', w', hrun, r1, r2, _⟩ := run_append_own (P := P) w base t o.type e i z size bytes h1 h2 h3 h4 h5 h6 h7 v k xs hown ad m c news hn hc h1c b1 b2 b3
  unfold Oper.wpIn
  refine ⟨?_, ?_⟩
  · simp [Oper.about, hop, resolve, Target.leads, Sem.run_pure]
  · rw [Oper.semAt_plain F _ _ (by rw [hop]; intro c hc'; cases hc')]
    simp [execOp, hop, resolve, invoke, builtin, hs, hx, hrun, Result.andThen]
    exact hK _ _ r1 r2

/-- Points of z, by their numbers among those kept. -/
def amL (kept z : Nat) : List Nat := (pts z).map fun x => pc (kept &&& (2 ^ x - 1))
def rows (kept z : Nat) : List Int := (amL kept z).map Int.ofNat
/-- What among holds. -/
structure AmI (w : World) (kept p : Nat) (dv : Value) (rs : List Nat) (ls : List (List Nat)) (A : World) : Prop where
  k : Boxed A w.heap.size 46 (.int .u64 (kept : Int))
  r : A.heap[w.heap.size + 1]? = some (.cells #[.int .i64 0, .slice none 0 0] 24 (0, 0))
  d : A.heap[w.heap.size + 1 + 1]? = some (.cells #[.int .i64 (p : Int), dv] 24 (0, 0))
  o : OR A (w.heap.size + 3) dv ls
  nd : rs.Nodup
  mks : ∀ q ∈ rs, w.heap.size + 3 ≤ q ∧ A.heap[q]? = some (.deferred (some []))
  bw : Below w.heap.size w A
theorem AmI.size {w : World} {kept p : Nat} {dv : Value} {rs : List Nat} {ls : List (List Nat)} {A : World} (h : AmI w kept p dv rs ls A) : w.heap.size + 3 ≤ A.heap.size := (Array.getElem?_eq_some_iff.1 h.d).1
theorem AmI.below {w : World} {kept p : Nat} {dv : Value} {rs : List Nat} {ls : List (List Nat)} {A B : World} (h : AmI w kept p dv rs ls A) (b : Below A.heap.size A B) : AmI w kept p dv rs ls B :=
  ⟨boxBelow h.k b h.k.lt, (b.block _ (Array.getElem?_eq_some_iff.1 h.r).1).trans h.r, (b.block _ (Array.getElem?_eq_some_iff.1 h.d).1).trans h.d, h.o.below b, h.nd, fun q hq => ⟨(h.mks q hq).1, (b.block _ (Array.getElem?_eq_some_iff.1 (h.mks q hq).2).1).trans (h.mks q hq).2⟩, h.bw.trans (b.mono (by have := h.size; omega))⟩

set_option maxRecDepth 100000 in
set_option maxHeartbeats 16000000 in
theorem among_any (kept : Nat) (S : List Nat) (u : Value) (w : World) (hT : Tab w) (hu : SC w u S) (hl : S.length ≤ 200) (hS : ∀ x ∈ S, x < 2 ^ 40) (hk : kept < 2 ^ 40) :
    Calls Tryd.prog 27 #[.int .u64 (kept : Int), u] w fun e w' => ∃ x, e = .returned (.agg #[.int .i64 (pc kept : Int), x]) ∧ OR w' (w.heap.size + 3) x (S.map fun y => amL kept (y &&& kept)) ∧ Below w.heap.size w w' := by
  refine (callsIn_wide (n := 4)).1 ?_
  obtain ⟨a, cap, rfl, hcap, hcm, hc⟩ := hu
  have HC : Hid (∀ j, j < S.length → ∃ g off, a = some ⟨g, off, none⟩ ∧ ∀ W, Below w.heap.size w W → W.cell? ⟨g, off + j, none⟩ = some (.int .u64 ((S.getD j 0 : Nat) : Int))) := hc
  have HS : Hid (∀ j, j < S.length → S.getD j 0 < 2 ^ 40) := fun j hj => hS _ (getD_in hj)
  have HTab : Hid (Tab w) := hT
  have HTS : Hid (∀ j, j < S.length → ((S.take (j + 1)).map fun y => amL kept (y &&& kept)) = ((S.take j).map fun y => amL kept (y &&& kept)) ++ [amL kept (S.getD j 0 &&& kept)]) := fun j hj => by
    rw [List.take_succ_eq_append_getElem hj, List.map_append, List.getD_eq_getElem?_getD, List.getElem?_eq_getElem hj]; rfl
  have HALL : Hid ((S.take S.length).map (fun y => amL kept (y &&& kept)) = S.map fun y => amL kept (y &&& kept)) := by show _ = _; rw [List.take_of_length_le (Nat.le_refl _)]
  generalize hn : S.length = n at *
  obtain ⟨i3, hi3, hz0, hz1, hz2⟩ := info3
  obtain ⟨i36, ji3, jz0, jz1, jz2⟩ := info36
  have CP0 : Hid (∀ W, Calls Tryd.prog 43 #[.int .u64 (kept : Int)] W fun e w' => e = .returned (.int .i64 (pc kept : Int)) ∧ w' = W) := fun W => size_any kept (by omega) W
  obtain ⟨p, Hp⟩ : ∃ p, Hid (pc kept = p) := ⟨_, rfl⟩
  rw [Hp.out] at CP0 ⊢
  have hp64 : p ≤ 64 := by rw [← Hp.out]; exact pc_le _
  have A0 : AmI w kept p (.slice none 0 0) [] [] (((w.alloc (.cells #[.int .u64 (kept : Int)] 46)).alloc (.cells #[.int .i64 0, .slice none 0 0] 24)).alloc (.cells #[.int .i64 (p : Int), .slice none 0 0] 24)) := by
    refine ⟨((Boxed.new w 46 _).alloc _).alloc _, ?_, ?_, OR.nil _ _, List.nodup_nil, fun q hq => by simp at hq, ((balloc w _).alloc (by simp) _).alloc (by simp; omega) _⟩
    · have h := heap_alloc_new (w.alloc (.cells #[.int .u64 (kept : Int)] 46)) (.cells #[.int .i64 0, .slice none 0 0] 24)
      rw [World.size_alloc] at h
      exact (Below.heap_alloc _ _ _ (by simp)).trans h
    · have h := heap_alloc_new ((w.alloc (.cells #[.int .u64 (kept : Int)] 46)).alloc (.cells #[.int .i64 0, .slice none 0 0] 24)) (.cells #[.int .i64 (p : Int), .slice none 0 0] 24)
      rw [World.size_alloc, World.size_alloc] at h
      exact h
  have HA0 : Hid (AmI w kept p (.slice none 0 0) [] [] (((w.alloc (.cells #[.int .u64 (kept : Int)] 46)).alloc (.cells #[.int .i64 0, .slice none 0 0] 24)).alloc (.cells #[.int .i64 (p : Int), .slice none 0 0] 24))) := A0
  have x0 : ((w.alloc (.cells #[.int .u64 (kept : Int)] 46)).alloc (.cells #[.int .i64 0, .slice none 0 0] 24)).cell? ⟨w.heap.size, 0, none⟩ = some (.int .u64 (kept : Int)) := ((Boxed.new w 46 (.int .u64 (kept : Int))).alloc _).cell
  have HK : Hid (kept < 2 ^ 40) := hk
  clear hc hS hT hcap hcm A0 hk
  refine callsIn_of_wp_marks Tryd.func27 rfl trivial ?_ rfl
  simp only [Tryd.ntmps27, List.size_toArray, List.length_cons, List.length_nil, Nat.reduceAdd, Nat.reduceSub, Array.replicate_succ, Array.replicate_zero, List.push_toArray, List.append_toArray, List.nil_append, List.cons_append]
  gi_wp2_with (refine ⟨trivial, (callsIn_wide.2 (CP0.out _)).mono ?_⟩; rintro e w3 ⟨rfl, hw3⟩; subst hw3)
  clear x0
  refine wpIn_loop (fun act A => ∃ (u7 u8 u9 u16 u17 u18 u19 u20 u21 u22 u23 u24 u25 u26 u27 u28 u29 u30 u31 u32 u33 u34 u35 u36 u37 u38 : Value) (i : Nat) (dv : Value) (rs : List Nat), act = { tmps := #[.int .u64 (kept : Int), .slice a n cap, .pointer (some ⟨w.heap.size, 0, none⟩), undef, .pointer (some ⟨w.heap.size + 1, 0, none⟩), .pointer (some ⟨w.heap.size + 1 + 1, 0, none⟩), undef, u7, u8, u9, .int .u64 (kept : Int), .int .i64 (p : Int), .agg #[.int .i64 (p : Int), .slice none 0 0], .slice a n cap, .int .i64 (n : Int), .int .i64 (i : Int), u16, u17, u18, u19, u20, u21, u22, u23, u24, u25, u26, u27, u28, u29, u30, u31, u32, u33, u34, u35, u36, u37, u38, undef], defers := rs.map markOf } ∧ i ≤ n ∧ AmI w kept p dv rs ((S.take i).map fun y => amL kept (y &&& kept)) A) (fun act A => n - (intOf (act.tmps.getD 15 undef)).toNat) ?start ?round
  case start => exact ⟨undef, undef, undef, undef, undef, undef, undef, undef, undef, undef, undef, undef, undef, undef, undef, undef, undef, undef, undef, undef, undef, undef, undef, undef, undef, undef, 0, .slice none 0 0, [], rfl, by omega, HA0.out⟩
  case round =>
    clear HA0
    rintro act A ⟨u7, u8, u9, u16, u17, u18, u19, u20, u21, u22, u23, u24, u25, u26, u27, u28, u29, u30, u31, u32, u33, u34, u35, u36, u37, u38, i, dv, rs, rfl, hi, hA⟩
    have hpos : 0 < w.heap.size := HTab.out.pos
    have hsz := hA.size
    by_cases hlt : i < n
    · have hd : decide ((i : Int) < (n : Int)) = true := by simp; omega
      have hii : (i : Int) < (n : Int) := by omega
      obtain ⟨g, off, rfl, hci0⟩ := HC.out i hlt
      have hci := hci0 A hA.bw
      have hyS := HS.out i hlt
      have hts := HTS.out i hlt
      obtain ⟨y, Hy⟩ : ∃ y, Hid (S.getD i 0 = y) := ⟨_, rfl⟩
      rw [Hy.out] at hci hyS hts
      have hk := HK.out
      have hand : bits .and .u64 (y : Int) (kept : Int) = ((y &&& kept : Nat) : Int) := andN (by omega) (by omega)
      have hz40 : y &&& kept < 2 ^ 40 := Nat.lt_of_le_of_lt Nat.and_le_left hyS
      obtain ⟨z, Hz⟩ : ∃ z, Hid (y &&& kept = z) := ⟨_, rfl⟩
      rw [Hz.out] at hand hz40 hts
      have HTI : Hid ((S.take (i + 1)).map (fun y => amL kept (y &&& kept)) = ((S.take i).map fun y => amL kept (y &&& kept)) ++ [amL kept z]) := hts
      have b1 := balloc A (.cells #[.slice none 0 0] 33)
      have f8 : Boxed (A.alloc (.cells #[.slice none 0 0] 33)) A.heap.size 33 (.slice none 0 0) := Boxed.new A 33 _
      have kk := ((hA.k).alloc (.cells #[.slice none 0 0] 33)).cell
      obtain ⟨w1, Hw1⟩ : ∃ w1, Hid (w1 = A.alloc (.cells #[.slice none 0 0] 33)) := ⟨_, rfl⟩
      have CP := points_any z w1
      have s1 : w1.heap.size = A.heap.size + 1 := by rw [Hw1.out]; simp
      rw [← Hw1.out] at f8 b1
      rw [s1] at CP
      have HS1 : Hid (w1.heap.size = A.heap.size + 1) := s1
      have HA : Hid (AmI w kept p dv rs ((S.take i).map fun y => amL kept (y &&& kept)) A) := hA
      clear s1 hts hci0 hk hA
      gi_wp2_with (refine ⟨trivial, ?_⟩; rw [← Hw1.out]; refine (callsIn_wide.2 CP).mono ?_; rintro e w2 ⟨rfl, hw2⟩)
      have s1 := HS1.out
      have b2 := balloc w1 (.cells #[.int .u64 (z : Int)] 46)
      have f9 := Boxed.new w1 46 (.int .u64 (z : Int))
      have s2 : (w1.alloc (.cells #[.int .u64 (z : Int)] 46)).heap.size = w1.heap.size + 1 := by simp
      rw [← hw2] at b2 f9 s2
      rw [s1] at f9
      have hAb : Below A.heap.size A w2 := b1.trans (b2.mono (by omega))
      have hT2 : Tab w2 := (HTab.out.next HA.out.bw).next hAb
      rw [← hw2]
      clear hw2 CP
      refine wpIn_runs2 (ys := pts z) (enc := encI) (Kp := KT) (Ab := AbN) (gf := 52) (lb := #[.pointer (some ⟨A.heap.size + 1, 0, none⟩)]) rfl (enters_of Tryd.func52 (by kernel_rfl) rfl)
        (points_runs z _ (A.heap.size + 1) w2 (by omega) hT2 f9) (fun _ => rfl) (fun h k => k.trans h) ?hKb (fun _ _ _ _ _ h => h.elim)
        (fun i B => (∃ uu, Boxed B A.heap.size 33 uu ∧ B.ownsRow w2.heap.size 3 1 uu i (((rows kept z).take i).map (Value.int .i64))) ∧ Below A.heap.size A B ∧ w2.heap.size ≤ B.heap.size) (fun _ _ => False) ?hIp (fun _ _ _ _ h => h.elim) (fun _ _ _ _ _ _ _ h => h.elim) (fun _ _ _ _ h => h.elim) ?h0
        (fun x => { tmps := #[.int .u64 (kept : Int), .slice (some ⟨g, off, none⟩) n cap, .pointer (some ⟨w.heap.size, 0, none⟩), undef, .pointer (some ⟨w.heap.size + 1, 0, none⟩), .pointer (some ⟨w.heap.size + 1 + 1, 0, none⟩), undef, .int .u64 (y : Int), .pointer (some ⟨A.heap.size, 0, none⟩), .int .i64 (x : Int), .int .u64 (kept : Int), .int .i64 (p : Int), .agg #[.int .i64 (p : Int), .slice none 0 0], .slice (some ⟨g, off, none⟩) n cap, .int .i64 (n : Int), .int .i64 (i : Int), .bool true, .pointer (some ⟨g, off + i, none⟩), .int .u64 (y : Int), .int .u64 (y : Int), .int .u64 (kept : Int), .int .u64 (z : Int), .func (.func 52) #[] #[.pointer (some ⟨A.heap.size + 1, 0, none⟩)], .int .i64 (x : Int), u24, u25, u26, u27, u28, u29, u30, u31, u32, u33, u34, u35, u36, u37, u38, undef], defers := [] }) ?assign ?body ?done (fun _ _ h => h.elim)
      case hKb =>
        intro B o hB
        exact World.putObj_heap_other (by omega)
      case hIp =>
        rintro i B o o' ⟨⟨uu, g1, g2⟩, g3, g4⟩ ho hc
        exact ⟨⟨uu, boxAt g1 (World.putObj_heap_other (by omega)), ownsRow_putObj g2 _ ho hc⟩, g3.trans (below_put _ _ (by omega)), by simpa [World.putObj] using g4⟩
      case h0 =>
        intro V hb
        exact ⟨⟨_, boxBelow (boxBelow f8 b2 (by omega)) hb (by omega), World.ownsRow_nil _ _ _ _⟩, hAb.trans (hb.mono (by omega)), hb.size⟩
      case assign =>
        clear s1 s2
        intro l x W K _ hK
        unfold encI
        gi_wp2
        exact hK
      case body =>
        rintro i' x B hx ⟨⟨uu, g1, g2⟩, g3, g4⟩ hD hrec
        have hlen : i' < (pts z).length := (List.getElem?_eq_some_iff.1 hx).1
        have h64 : (pts z).length ≤ 64 := pc_le z
        have hx64 : x < 40 := by
          have hm := pts_mem.1 (List.mem_of_getElem? hx)
          rcases Nat.lt_or_ge x 40 with h | h
          · exact h
          · rw [testBit_high hz40 h] at hm; cases hm.2
        have hk := HK.out
        have hlow : 2 ^ x - 1 < 2 ^ 64 := by have := pow_lt64 (n := x) (m := 64) (by omega); omega
        have hand2 : bits .and .u64 (kept : Int) ((2 ^ x - 1 : Nat) : Int) = ((kept &&& (2 ^ x - 1) : Nat) : Int) := andN (by omega) hlow
        have CB : Hid (∀ W, Calls Tryd.prog 25 #[.int .i64 (x : Int)] W fun e w' => e = .returned (.int .u64 ((2 ^ x - 1 : Nat) : Int)) ∧ w' = W) := fun W => below_any x (by omega) W
        have hq264 : kept &&& (2 ^ x - 1) < 2 ^ 64 := Nat.lt_of_le_of_lt Nat.and_le_left (show kept < 2 ^ 64 by omega)
        have CZ0 := size_any (kept &&& (2 ^ x - 1)) hq264
        have hr64 := pc_le (kept &&& (2 ^ x - 1))
        have htk : ((rows kept z).take (i' + 1)).map (Value.int .i64) = ((rows kept z).take i').map (Value.int .i64) ++ [.int .i64 ((pc (kept &&& (2 ^ x - 1)) : Nat) : Int)] := by
          unfold rows amL
          rw [List.take_add_one]
          simp [hx]
        obtain ⟨q1, Hq1⟩ : ∃ q1, Hid (2 ^ x - 1 = q1) := ⟨_, (rfl : 2 ^ x - 1 = 2 ^ x - 1)⟩
        rw [Hq1.out] at hand2 CB CZ0 hr64 htk
        obtain ⟨r, Hr⟩ : ∃ r, Hid (pc (kept &&& q1) = r) := ⟨_, rfl⟩
        rw [Hr.out] at CZ0 hr64 htk
        obtain ⟨q2, Hq2⟩ : ∃ q2, Hid (kept &&& q1 = q2) := ⟨_, rfl⟩
        rw [Hq2.out] at hand2 CZ0
        have CZ : Hid (∀ W, Calls Tryd.prog 43 #[.int .u64 (q2 : Int)] W fun e w' => e = .returned (.int .i64 (r : Int)) ∧ w' = W) := CZ0
        have HTK : Hid (((rows kept z).take (i' + 1)).map (Value.int .i64) = ((rows kept z).take i').map (Value.int .i64) ++ [.int .i64 (r : Int)]) := htk
        have q8 := g1.cell
        have kB := HA.out.below g3
        have qk := kB.k.cell
        have qka := (kB.k.alloc (.cells #[.int .i64 (r : Int)] 3)).cell
        obtain ⟨ua, uc, eu⟩ := own_formE g2
        have hu := g1
        have hrow := g2
        subst eu
        have r8 := (g1.alloc (.cells #[.int .i64 (r : Int)] 3)).cell
        have hbd : Below B.heap.size B (B.alloc (.cells #[.int .i64 (r : Int)] 3)).drew := bdrewN (balloc B _) 1
        have hrowd : ((B.alloc (.cells #[.int .i64 (r : Int)] 3)).drew).ownsRow w2.heap.size 3 1 (.slice ua i' uc) i' (((rows kept z).take i').map (Value.int .i64)) := hrow.alloc _
        have hnews : ∀ j u, ([Value.int .i64 (r : Int)] : List Value)[j]? = some u → ((B.alloc (.cells #[.int .i64 (r : Int)] 3)).drew).cell? ((⟨B.heap.size, 0, none⟩ : Addr).add j) = some u := by
          intro j u hj
          match j, hj with
          | 0, hj =>
            simp at hj
            subst hj
            exact (Boxed.new B 3 (.int .i64 (r : Int))).cell
        have HREC : Hid (∀ b, b = w2.heap.size ∨ b = w2.heap.size + 1 → ∃ o, B.heap[b]? = some o ∧ o.isCells = false) := hrec
        have hle2 : A.heap.size ≤ w2.heap.size := by omega
        have hposA : 0 < A.heap.size := by omega
        clear hrec htk hx CZ0 hlow hq264 hk s1 s2
        gi_wp2
        refine wpIn_region_any (by kernel_rfl) (wpAnyIn_round (w2.heap.size + 1) (fun i o h c e => by revert h; revert i; intro i h; have hm := Array.mem_of_getElem? h; simp at hm; rcases hm with rfl | rfl | rfl | rfl | rfl | rfl | rfl | rfl | rfl <;> cases e) _ _ _ _ rfl ?_)
        try (change wpAnyIn _ _ _ _ _ _ _ _ _ (World.drew _))
        refine wpAnyIn_take (i := 2) (v := .int .i64 (x : Int)) rfl rfl (by kernel_rfl) (by kernel_rfl) (by kernel_rfl) (by intro _ _ _ h; first | exact h | cases h.1) ⟨Or.inl ⟨by rfl, fun w => by go_simp⟩, fun _ => rfl⟩ ?_
        refine wpAnyIn_ready (rs := [0, 1, 3]) (by kernel_rfl) (by simp) (AllReadyIn.cons rfl (fun K hK => ?_) (AllReadyIn.cons rfl (fun K hK => ?_) (AllReadyIn.cons rfl (fun K hK => ?_) AllReadyIn.nil)))
        · go_simp
          refine hK _ _ ?_
          clear hK K
          refine wpAnyIn_ready (rs := [1, 3]) (by kernel_rfl) (by simp) (AllReadyIn.cons rfl (fun K hK => ?_) (AllReadyIn.cons rfl (fun K hK => ?_) AllReadyIn.nil))
          · go_simp
            refine hK _ _ ?_
            clear hK K
            refine wpAnyIn_ready (rs := [3]) (by kernel_rfl) (by simp) (AllReadyIn.cons rfl (fun K hK => ?_) AllReadyIn.nil)
            go_simp
            refine ⟨trivial, (callsIn_wide.2 (CB.out _)).mono ?_⟩
            rintro e C0 ⟨rfl, hC0⟩
            subst hC0
            refine hK _ _ ?_
            clear hK K
            refine wpAnyIn_take (i := 4) (v := .int .u64 (q2 : Int)) rfl rfl (by kernel_rfl) (by kernel_rfl) (by kernel_rfl) (by intro _ _ _ h; first | exact h | cases h.1) ⟨Or.inl ⟨by rfl, fun w => by go_simp⟩, fun _ => rfl⟩ ?_
            refine wpAnyIn_ready (rs := [5]) (by kernel_rfl) (by simp) (AllReadyIn.cons rfl (fun K hK => ?_) AllReadyIn.nil)
            go_simp
            refine ⟨trivial, (callsIn_wide.2 (CZ.out _)).mono ?_⟩
            rintro e C0 ⟨rfl, hC0⟩
            subst hC0
            refine hK _ _ ?_
            clear hK K
            refine wpAnyIn_ready (rs := [6]) (by kernel_rfl) (by simp) (AllReadyIn.cons rfl (fun K hK => ?_) AllReadyIn.nil)
            go_simp
            refine hK _ _ ?_
            clear hK K
            refine wpAnyIn_ready (rs := [7]) (by kernel_rfl) (by simp) (AllReadyIn.cons rfl (fun K hK => ?_) AllReadyIn.nil)
            refine stepIn_append_own rfl (.tmp 24) (.tmp 30) 33 rfl w2.heap.size 3 i3 (.int .i64 0) 1 8 und22 hi3 hz0 hz1 hz2 rfl (by decide) (.slice ua i' uc) i' (((rows kept z).take i').map (Value.int .i64)) (by simp [Act.eval]) hrowd ⟨B.heap.size, 0, none⟩ 1 1 [.int .i64 (r : Int)] (by simp [Act.eval]) rfl hnews (by simp [Value.oneCell']) (by unfold maxLen; omega) (by omega) (by show w2.heap.size ≤ ((B.alloc (.cells #[.int .i64 (r : Int)] 3)).drew).heap.size; simp; omega) ?_
            intro v' w5 hown' hgrow
            obtain ⟨g', cap', rfl⟩ := ownsRow_succ hown'
            obtain ⟨k1, k2, k3, k4, _, k6⟩ := appFacts (S := fun _ => False) (lo := A.heap.size) (by decide) hu hrow hbd (fun _ h => h.elim) (fun h => h) g4 ⟨Nat.le_refl _, by omega⟩ hown' hgrow
            have k1c := k1.cell
            have k1f := k1.frozen
            refine hK _ _ ?_
            clear hK K
            refine wpAnyIn_ready (rs := [8]) (by kernel_rfl) (by simp) (AllReadyIn.cons rfl (fun K hK => ?_) AllReadyIn.nil)
            go_simp
            refine hK _ _ ?_
            clear hK K
            refine wpAnyIn_done (by kernel_rfl) ?_ _
            gi_wp2
            refine ⟨⟨?_, ?_⟩, k6.block 0 (by omega), ⟨_, k2, by rw [HTK.out]; exact k3⟩, g3.trans k6, Nat.le_trans g4 k6.size⟩
            · obtain ⟨o, h1, h2⟩ := HREC.out _ (.inl rfl)
              rw [k4.same _ _ h1 h2, h1]
            · obtain ⟨o, h1, h2⟩ := HREC.out _ (.inr rfl)
              rw [k4.same _ _ h1 h2, h1]
          · go_simp
            refine ⟨trivial, (callsIn_wide.2 (CB.out _)).mono ?_⟩
            rintro e C0 ⟨rfl, hC0⟩
            subst hC0
            refine hK _ _ ?_
            clear hK K
            refine wpAnyIn_ready (rs := [1]) (by kernel_rfl) (by simp) (AllReadyIn.cons rfl (fun K hK => ?_) AllReadyIn.nil)
            go_simp
            refine hK _ _ ?_
            clear hK K
            refine wpAnyIn_take (i := 4) (v := .int .u64 (q2 : Int)) rfl rfl (by kernel_rfl) (by kernel_rfl) (by kernel_rfl) (by intro _ _ _ h; first | exact h | cases h.1) ⟨Or.inl ⟨by rfl, fun w => by go_simp⟩, fun _ => rfl⟩ ?_
            refine wpAnyIn_ready (rs := [5]) (by kernel_rfl) (by simp) (AllReadyIn.cons rfl (fun K hK => ?_) AllReadyIn.nil)
            go_simp
            refine ⟨trivial, (callsIn_wide.2 (CZ.out _)).mono ?_⟩
            rintro e C0 ⟨rfl, hC0⟩
            subst hC0
            refine hK _ _ ?_
            clear hK K
            refine wpAnyIn_ready (rs := [6]) (by kernel_rfl) (by simp) (AllReadyIn.cons rfl (fun K hK => ?_) AllReadyIn.nil)
            go_simp
            refine hK _ _ ?_
            clear hK K
            refine wpAnyIn_ready (rs := [7]) (by kernel_rfl) (by simp) (AllReadyIn.cons rfl (fun K hK => ?_) AllReadyIn.nil)
            refine stepIn_append_own rfl (.tmp 24) (.tmp 30) 33 rfl w2.heap.size 3 i3 (.int .i64 0) 1 8 und22 hi3 hz0 hz1 hz2 rfl (by decide) (.slice ua i' uc) i' (((rows kept z).take i').map (Value.int .i64)) (by simp [Act.eval]) hrowd ⟨B.heap.size, 0, none⟩ 1 1 [.int .i64 (r : Int)] (by simp [Act.eval]) rfl hnews (by simp [Value.oneCell']) (by unfold maxLen; omega) (by omega) (by show w2.heap.size ≤ ((B.alloc (.cells #[.int .i64 (r : Int)] 3)).drew).heap.size; simp; omega) ?_
            intro v' w5 hown' hgrow
            obtain ⟨g', cap', rfl⟩ := ownsRow_succ hown'
            obtain ⟨k1, k2, k3, k4, _, k6⟩ := appFacts (S := fun _ => False) (lo := A.heap.size) (by decide) hu hrow hbd (fun _ h => h.elim) (fun h => h) g4 ⟨Nat.le_refl _, by omega⟩ hown' hgrow
            have k1c := k1.cell
            have k1f := k1.frozen
            refine hK _ _ ?_
            clear hK K
            refine wpAnyIn_ready (rs := [8]) (by kernel_rfl) (by simp) (AllReadyIn.cons rfl (fun K hK => ?_) AllReadyIn.nil)
            go_simp
            refine hK _ _ ?_
            clear hK K
            refine wpAnyIn_done (by kernel_rfl) ?_ _
            gi_wp2
            refine ⟨⟨?_, ?_⟩, k6.block 0 (by omega), ⟨_, k2, by rw [HTK.out]; exact k3⟩, g3.trans k6, Nat.le_trans g4 k6.size⟩
            · obtain ⟨o, h1, h2⟩ := HREC.out _ (.inl rfl)
              rw [k4.same _ _ h1 h2, h1]
            · obtain ⟨o, h1, h2⟩ := HREC.out _ (.inr rfl)
              rw [k4.same _ _ h1 h2, h1]
        · go_simp
          refine hK _ _ ?_
          clear hK K
          refine wpAnyIn_ready (rs := [0, 3]) (by kernel_rfl) (by simp) (AllReadyIn.cons rfl (fun K hK => ?_) (AllReadyIn.cons rfl (fun K hK => ?_) AllReadyIn.nil))
          · go_simp
            refine hK _ _ ?_
            clear hK K
            refine wpAnyIn_ready (rs := [3]) (by kernel_rfl) (by simp) (AllReadyIn.cons rfl (fun K hK => ?_) AllReadyIn.nil)
            go_simp
            refine ⟨trivial, (callsIn_wide.2 (CB.out _)).mono ?_⟩
            rintro e C0 ⟨rfl, hC0⟩
            subst hC0
            refine hK _ _ ?_
            clear hK K
            refine wpAnyIn_take (i := 4) (v := .int .u64 (q2 : Int)) rfl rfl (by kernel_rfl) (by kernel_rfl) (by kernel_rfl) (by intro _ _ _ h; first | exact h | cases h.1) ⟨Or.inl ⟨by rfl, fun w => by go_simp⟩, fun _ => rfl⟩ ?_
            refine wpAnyIn_ready (rs := [5]) (by kernel_rfl) (by simp) (AllReadyIn.cons rfl (fun K hK => ?_) AllReadyIn.nil)
            go_simp
            refine ⟨trivial, (callsIn_wide.2 (CZ.out _)).mono ?_⟩
            rintro e C0 ⟨rfl, hC0⟩
            subst hC0
            refine hK _ _ ?_
            clear hK K
            refine wpAnyIn_ready (rs := [6]) (by kernel_rfl) (by simp) (AllReadyIn.cons rfl (fun K hK => ?_) AllReadyIn.nil)
            go_simp
            refine hK _ _ ?_
            clear hK K
            refine wpAnyIn_ready (rs := [7]) (by kernel_rfl) (by simp) (AllReadyIn.cons rfl (fun K hK => ?_) AllReadyIn.nil)
            refine stepIn_append_own rfl (.tmp 24) (.tmp 30) 33 rfl w2.heap.size 3 i3 (.int .i64 0) 1 8 und22 hi3 hz0 hz1 hz2 rfl (by decide) (.slice ua i' uc) i' (((rows kept z).take i').map (Value.int .i64)) (by simp [Act.eval]) hrowd ⟨B.heap.size, 0, none⟩ 1 1 [.int .i64 (r : Int)] (by simp [Act.eval]) rfl hnews (by simp [Value.oneCell']) (by unfold maxLen; omega) (by omega) (by show w2.heap.size ≤ ((B.alloc (.cells #[.int .i64 (r : Int)] 3)).drew).heap.size; simp; omega) ?_
            intro v' w5 hown' hgrow
            obtain ⟨g', cap', rfl⟩ := ownsRow_succ hown'
            obtain ⟨k1, k2, k3, k4, _, k6⟩ := appFacts (S := fun _ => False) (lo := A.heap.size) (by decide) hu hrow hbd (fun _ h => h.elim) (fun h => h) g4 ⟨Nat.le_refl _, by omega⟩ hown' hgrow
            have k1c := k1.cell
            have k1f := k1.frozen
            refine hK _ _ ?_
            clear hK K
            refine wpAnyIn_ready (rs := [8]) (by kernel_rfl) (by simp) (AllReadyIn.cons rfl (fun K hK => ?_) AllReadyIn.nil)
            go_simp
            refine hK _ _ ?_
            clear hK K
            refine wpAnyIn_done (by kernel_rfl) ?_ _
            gi_wp2
            refine ⟨⟨?_, ?_⟩, k6.block 0 (by omega), ⟨_, k2, by rw [HTK.out]; exact k3⟩, g3.trans k6, Nat.le_trans g4 k6.size⟩
            · obtain ⟨o, h1, h2⟩ := HREC.out _ (.inl rfl)
              rw [k4.same _ _ h1 h2, h1]
            · obtain ⟨o, h1, h2⟩ := HREC.out _ (.inr rfl)
              rw [k4.same _ _ h1 h2, h1]
          · go_simp
            refine ⟨trivial, (callsIn_wide.2 (CB.out _)).mono ?_⟩
            rintro e C0 ⟨rfl, hC0⟩
            subst hC0
            refine hK _ _ ?_
            clear hK K
            refine wpAnyIn_take (i := 4) (v := .int .u64 (q2 : Int)) rfl rfl (by kernel_rfl) (by kernel_rfl) (by kernel_rfl) (by intro _ _ _ h; first | exact h | cases h.1) ⟨Or.inl ⟨by rfl, fun w => by go_simp⟩, fun _ => rfl⟩ ?_
            refine wpAnyIn_ready (rs := [0, 5]) (by kernel_rfl) (by simp) (AllReadyIn.cons rfl (fun K hK => ?_) (AllReadyIn.cons rfl (fun K hK => ?_) AllReadyIn.nil))
            · go_simp
              refine hK _ _ ?_
              clear hK K
              refine wpAnyIn_ready (rs := [5]) (by kernel_rfl) (by simp) (AllReadyIn.cons rfl (fun K hK => ?_) AllReadyIn.nil)
              go_simp
              refine ⟨trivial, (callsIn_wide.2 (CZ.out _)).mono ?_⟩
              rintro e C0 ⟨rfl, hC0⟩
              subst hC0
              refine hK _ _ ?_
              clear hK K
              refine wpAnyIn_ready (rs := [6]) (by kernel_rfl) (by simp) (AllReadyIn.cons rfl (fun K hK => ?_) AllReadyIn.nil)
              go_simp
              refine hK _ _ ?_
              clear hK K
              refine wpAnyIn_ready (rs := [7]) (by kernel_rfl) (by simp) (AllReadyIn.cons rfl (fun K hK => ?_) AllReadyIn.nil)
              refine stepIn_append_own rfl (.tmp 24) (.tmp 30) 33 rfl w2.heap.size 3 i3 (.int .i64 0) 1 8 und22 hi3 hz0 hz1 hz2 rfl (by decide) (.slice ua i' uc) i' (((rows kept z).take i').map (Value.int .i64)) (by simp [Act.eval]) hrowd ⟨B.heap.size, 0, none⟩ 1 1 [.int .i64 (r : Int)] (by simp [Act.eval]) rfl hnews (by simp [Value.oneCell']) (by unfold maxLen; omega) (by omega) (by show w2.heap.size ≤ ((B.alloc (.cells #[.int .i64 (r : Int)] 3)).drew).heap.size; simp; omega) ?_
              intro v' w5 hown' hgrow
              obtain ⟨g', cap', rfl⟩ := ownsRow_succ hown'
              obtain ⟨k1, k2, k3, k4, _, k6⟩ := appFacts (S := fun _ => False) (lo := A.heap.size) (by decide) hu hrow hbd (fun _ h => h.elim) (fun h => h) g4 ⟨Nat.le_refl _, by omega⟩ hown' hgrow
              have k1c := k1.cell
              have k1f := k1.frozen
              refine hK _ _ ?_
              clear hK K
              refine wpAnyIn_ready (rs := [8]) (by kernel_rfl) (by simp) (AllReadyIn.cons rfl (fun K hK => ?_) AllReadyIn.nil)
              go_simp
              refine hK _ _ ?_
              clear hK K
              refine wpAnyIn_done (by kernel_rfl) ?_ _
              gi_wp2
              refine ⟨⟨?_, ?_⟩, k6.block 0 (by omega), ⟨_, k2, by rw [HTK.out]; exact k3⟩, g3.trans k6, Nat.le_trans g4 k6.size⟩
              · obtain ⟨o, h1, h2⟩ := HREC.out _ (.inl rfl)
                rw [k4.same _ _ h1 h2, h1]
              · obtain ⟨o, h1, h2⟩ := HREC.out _ (.inr rfl)
                rw [k4.same _ _ h1 h2, h1]
            · go_simp
              refine ⟨trivial, (callsIn_wide.2 (CZ.out _)).mono ?_⟩
              rintro e C0 ⟨rfl, hC0⟩
              subst hC0
              refine hK _ _ ?_
              clear hK K
              refine wpAnyIn_ready (rs := [0, 6]) (by kernel_rfl) (by simp) (AllReadyIn.cons rfl (fun K hK => ?_) (AllReadyIn.cons rfl (fun K hK => ?_) AllReadyIn.nil))
              · go_simp
                refine hK _ _ ?_
                clear hK K
                refine wpAnyIn_ready (rs := [6]) (by kernel_rfl) (by simp) (AllReadyIn.cons rfl (fun K hK => ?_) AllReadyIn.nil)
                go_simp
                refine hK _ _ ?_
                clear hK K
                refine wpAnyIn_ready (rs := [7]) (by kernel_rfl) (by simp) (AllReadyIn.cons rfl (fun K hK => ?_) AllReadyIn.nil)
                refine stepIn_append_own rfl (.tmp 24) (.tmp 30) 33 rfl w2.heap.size 3 i3 (.int .i64 0) 1 8 und22 hi3 hz0 hz1 hz2 rfl (by decide) (.slice ua i' uc) i' (((rows kept z).take i').map (Value.int .i64)) (by simp [Act.eval]) hrowd ⟨B.heap.size, 0, none⟩ 1 1 [.int .i64 (r : Int)] (by simp [Act.eval]) rfl hnews (by simp [Value.oneCell']) (by unfold maxLen; omega) (by omega) (by show w2.heap.size ≤ ((B.alloc (.cells #[.int .i64 (r : Int)] 3)).drew).heap.size; simp; omega) ?_
                intro v' w5 hown' hgrow
                obtain ⟨g', cap', rfl⟩ := ownsRow_succ hown'
                obtain ⟨k1, k2, k3, k4, _, k6⟩ := appFacts (S := fun _ => False) (lo := A.heap.size) (by decide) hu hrow hbd (fun _ h => h.elim) (fun h => h) g4 ⟨Nat.le_refl _, by omega⟩ hown' hgrow
                have k1c := k1.cell
                have k1f := k1.frozen
                refine hK _ _ ?_
                clear hK K
                refine wpAnyIn_ready (rs := [8]) (by kernel_rfl) (by simp) (AllReadyIn.cons rfl (fun K hK => ?_) AllReadyIn.nil)
                go_simp
                refine hK _ _ ?_
                clear hK K
                refine wpAnyIn_done (by kernel_rfl) ?_ _
                gi_wp2
                refine ⟨⟨?_, ?_⟩, k6.block 0 (by omega), ⟨_, k2, by rw [HTK.out]; exact k3⟩, g3.trans k6, Nat.le_trans g4 k6.size⟩
                · obtain ⟨o, h1, h2⟩ := HREC.out _ (.inl rfl)
                  rw [k4.same _ _ h1 h2, h1]
                · obtain ⟨o, h1, h2⟩ := HREC.out _ (.inr rfl)
                  rw [k4.same _ _ h1 h2, h1]
              · go_simp
                refine hK _ _ ?_
                clear hK K
                refine wpAnyIn_ready (rs := [0]) (by kernel_rfl) (by simp) (AllReadyIn.cons rfl (fun K hK => ?_) AllReadyIn.nil)
                go_simp
                refine hK _ _ ?_
                clear hK K
                refine wpAnyIn_ready (rs := [7]) (by kernel_rfl) (by simp) (AllReadyIn.cons rfl (fun K hK => ?_) AllReadyIn.nil)
                refine stepIn_append_own rfl (.tmp 24) (.tmp 30) 33 rfl w2.heap.size 3 i3 (.int .i64 0) 1 8 und22 hi3 hz0 hz1 hz2 rfl (by decide) (.slice ua i' uc) i' (((rows kept z).take i').map (Value.int .i64)) (by simp [Act.eval]) hrowd ⟨B.heap.size, 0, none⟩ 1 1 [.int .i64 (r : Int)] (by simp [Act.eval]) rfl hnews (by simp [Value.oneCell']) (by unfold maxLen; omega) (by omega) (by show w2.heap.size ≤ ((B.alloc (.cells #[.int .i64 (r : Int)] 3)).drew).heap.size; simp; omega) ?_
                intro v' w5 hown' hgrow
                obtain ⟨g', cap', rfl⟩ := ownsRow_succ hown'
                obtain ⟨k1, k2, k3, k4, _, k6⟩ := appFacts (S := fun _ => False) (lo := A.heap.size) (by decide) hu hrow hbd (fun _ h => h.elim) (fun h => h) g4 ⟨Nat.le_refl _, by omega⟩ hown' hgrow
                have k1c := k1.cell
                have k1f := k1.frozen
                refine hK _ _ ?_
                clear hK K
                refine wpAnyIn_ready (rs := [8]) (by kernel_rfl) (by simp) (AllReadyIn.cons rfl (fun K hK => ?_) AllReadyIn.nil)
                go_simp
                refine hK _ _ ?_
                clear hK K
                refine wpAnyIn_done (by kernel_rfl) ?_ _
                gi_wp2
                refine ⟨⟨?_, ?_⟩, k6.block 0 (by omega), ⟨_, k2, by rw [HTK.out]; exact k3⟩, g3.trans k6, Nat.le_trans g4 k6.size⟩
                · obtain ⟨o, h1, h2⟩ := HREC.out _ (.inl rfl)
                  rw [k4.same _ _ h1 h2, h1]
                · obtain ⟨o, h1, h2⟩ := HREC.out _ (.inr rfl)
                  rw [k4.same _ _ h1 h2, h1]
        · go_simp
          refine ⟨trivial, (callsIn_wide.2 (CB.out _)).mono ?_⟩
          rintro e C0 ⟨rfl, hC0⟩
          subst hC0
          refine hK _ _ ?_
          clear hK K
          refine wpAnyIn_ready (rs := [0, 1]) (by kernel_rfl) (by simp) (AllReadyIn.cons rfl (fun K hK => ?_) (AllReadyIn.cons rfl (fun K hK => ?_) AllReadyIn.nil))
          · go_simp
            refine hK _ _ ?_
            clear hK K
            refine wpAnyIn_ready (rs := [1]) (by kernel_rfl) (by simp) (AllReadyIn.cons rfl (fun K hK => ?_) AllReadyIn.nil)
            go_simp
            refine hK _ _ ?_
            clear hK K
            refine wpAnyIn_take (i := 4) (v := .int .u64 (q2 : Int)) rfl rfl (by kernel_rfl) (by kernel_rfl) (by kernel_rfl) (by intro _ _ _ h; first | exact h | cases h.1) ⟨Or.inl ⟨by rfl, fun w => by go_simp⟩, fun _ => rfl⟩ ?_
            refine wpAnyIn_ready (rs := [5]) (by kernel_rfl) (by simp) (AllReadyIn.cons rfl (fun K hK => ?_) AllReadyIn.nil)
            go_simp
            refine ⟨trivial, (callsIn_wide.2 (CZ.out _)).mono ?_⟩
            rintro e C0 ⟨rfl, hC0⟩
            subst hC0
            refine hK _ _ ?_
            clear hK K
            refine wpAnyIn_ready (rs := [6]) (by kernel_rfl) (by simp) (AllReadyIn.cons rfl (fun K hK => ?_) AllReadyIn.nil)
            go_simp
            refine hK _ _ ?_
            clear hK K
            refine wpAnyIn_ready (rs := [7]) (by kernel_rfl) (by simp) (AllReadyIn.cons rfl (fun K hK => ?_) AllReadyIn.nil)
            refine stepIn_append_own rfl (.tmp 24) (.tmp 30) 33 rfl w2.heap.size 3 i3 (.int .i64 0) 1 8 und22 hi3 hz0 hz1 hz2 rfl (by decide) (.slice ua i' uc) i' (((rows kept z).take i').map (Value.int .i64)) (by simp [Act.eval]) hrowd ⟨B.heap.size, 0, none⟩ 1 1 [.int .i64 (r : Int)] (by simp [Act.eval]) rfl hnews (by simp [Value.oneCell']) (by unfold maxLen; omega) (by omega) (by show w2.heap.size ≤ ((B.alloc (.cells #[.int .i64 (r : Int)] 3)).drew).heap.size; simp; omega) ?_
            intro v' w5 hown' hgrow
            obtain ⟨g', cap', rfl⟩ := ownsRow_succ hown'
            obtain ⟨k1, k2, k3, k4, _, k6⟩ := appFacts (S := fun _ => False) (lo := A.heap.size) (by decide) hu hrow hbd (fun _ h => h.elim) (fun h => h) g4 ⟨Nat.le_refl _, by omega⟩ hown' hgrow
            have k1c := k1.cell
            have k1f := k1.frozen
            refine hK _ _ ?_
            clear hK K
            refine wpAnyIn_ready (rs := [8]) (by kernel_rfl) (by simp) (AllReadyIn.cons rfl (fun K hK => ?_) AllReadyIn.nil)
            go_simp
            refine hK _ _ ?_
            clear hK K
            refine wpAnyIn_done (by kernel_rfl) ?_ _
            gi_wp2
            refine ⟨⟨?_, ?_⟩, k6.block 0 (by omega), ⟨_, k2, by rw [HTK.out]; exact k3⟩, g3.trans k6, Nat.le_trans g4 k6.size⟩
            · obtain ⟨o, h1, h2⟩ := HREC.out _ (.inl rfl)
              rw [k4.same _ _ h1 h2, h1]
            · obtain ⟨o, h1, h2⟩ := HREC.out _ (.inr rfl)
              rw [k4.same _ _ h1 h2, h1]
          · go_simp
            refine hK _ _ ?_
            clear hK K
            refine wpAnyIn_take (i := 4) (v := .int .u64 (q2 : Int)) rfl rfl (by kernel_rfl) (by kernel_rfl) (by kernel_rfl) (by intro _ _ _ h; first | exact h | cases h.1) ⟨Or.inl ⟨by rfl, fun w => by go_simp⟩, fun _ => rfl⟩ ?_
            refine wpAnyIn_ready (rs := [0, 5]) (by kernel_rfl) (by simp) (AllReadyIn.cons rfl (fun K hK => ?_) (AllReadyIn.cons rfl (fun K hK => ?_) AllReadyIn.nil))
            · go_simp
              refine hK _ _ ?_
              clear hK K
              refine wpAnyIn_ready (rs := [5]) (by kernel_rfl) (by simp) (AllReadyIn.cons rfl (fun K hK => ?_) AllReadyIn.nil)
              go_simp
              refine ⟨trivial, (callsIn_wide.2 (CZ.out _)).mono ?_⟩
              rintro e C0 ⟨rfl, hC0⟩
              subst hC0
              refine hK _ _ ?_
              clear hK K
              refine wpAnyIn_ready (rs := [6]) (by kernel_rfl) (by simp) (AllReadyIn.cons rfl (fun K hK => ?_) AllReadyIn.nil)
              go_simp
              refine hK _ _ ?_
              clear hK K
              refine wpAnyIn_ready (rs := [7]) (by kernel_rfl) (by simp) (AllReadyIn.cons rfl (fun K hK => ?_) AllReadyIn.nil)
              refine stepIn_append_own rfl (.tmp 24) (.tmp 30) 33 rfl w2.heap.size 3 i3 (.int .i64 0) 1 8 und22 hi3 hz0 hz1 hz2 rfl (by decide) (.slice ua i' uc) i' (((rows kept z).take i').map (Value.int .i64)) (by simp [Act.eval]) hrowd ⟨B.heap.size, 0, none⟩ 1 1 [.int .i64 (r : Int)] (by simp [Act.eval]) rfl hnews (by simp [Value.oneCell']) (by unfold maxLen; omega) (by omega) (by show w2.heap.size ≤ ((B.alloc (.cells #[.int .i64 (r : Int)] 3)).drew).heap.size; simp; omega) ?_
              intro v' w5 hown' hgrow
              obtain ⟨g', cap', rfl⟩ := ownsRow_succ hown'
              obtain ⟨k1, k2, k3, k4, _, k6⟩ := appFacts (S := fun _ => False) (lo := A.heap.size) (by decide) hu hrow hbd (fun _ h => h.elim) (fun h => h) g4 ⟨Nat.le_refl _, by omega⟩ hown' hgrow
              have k1c := k1.cell
              have k1f := k1.frozen
              refine hK _ _ ?_
              clear hK K
              refine wpAnyIn_ready (rs := [8]) (by kernel_rfl) (by simp) (AllReadyIn.cons rfl (fun K hK => ?_) AllReadyIn.nil)
              go_simp
              refine hK _ _ ?_
              clear hK K
              refine wpAnyIn_done (by kernel_rfl) ?_ _
              gi_wp2
              refine ⟨⟨?_, ?_⟩, k6.block 0 (by omega), ⟨_, k2, by rw [HTK.out]; exact k3⟩, g3.trans k6, Nat.le_trans g4 k6.size⟩
              · obtain ⟨o, h1, h2⟩ := HREC.out _ (.inl rfl)
                rw [k4.same _ _ h1 h2, h1]
              · obtain ⟨o, h1, h2⟩ := HREC.out _ (.inr rfl)
                rw [k4.same _ _ h1 h2, h1]
            · go_simp
              refine ⟨trivial, (callsIn_wide.2 (CZ.out _)).mono ?_⟩
              rintro e C0 ⟨rfl, hC0⟩
              subst hC0
              refine hK _ _ ?_
              clear hK K
              refine wpAnyIn_ready (rs := [0, 6]) (by kernel_rfl) (by simp) (AllReadyIn.cons rfl (fun K hK => ?_) (AllReadyIn.cons rfl (fun K hK => ?_) AllReadyIn.nil))
              · go_simp
                refine hK _ _ ?_
                clear hK K
                refine wpAnyIn_ready (rs := [6]) (by kernel_rfl) (by simp) (AllReadyIn.cons rfl (fun K hK => ?_) AllReadyIn.nil)
                go_simp
                refine hK _ _ ?_
                clear hK K
                refine wpAnyIn_ready (rs := [7]) (by kernel_rfl) (by simp) (AllReadyIn.cons rfl (fun K hK => ?_) AllReadyIn.nil)
                refine stepIn_append_own rfl (.tmp 24) (.tmp 30) 33 rfl w2.heap.size 3 i3 (.int .i64 0) 1 8 und22 hi3 hz0 hz1 hz2 rfl (by decide) (.slice ua i' uc) i' (((rows kept z).take i').map (Value.int .i64)) (by simp [Act.eval]) hrowd ⟨B.heap.size, 0, none⟩ 1 1 [.int .i64 (r : Int)] (by simp [Act.eval]) rfl hnews (by simp [Value.oneCell']) (by unfold maxLen; omega) (by omega) (by show w2.heap.size ≤ ((B.alloc (.cells #[.int .i64 (r : Int)] 3)).drew).heap.size; simp; omega) ?_
                intro v' w5 hown' hgrow
                obtain ⟨g', cap', rfl⟩ := ownsRow_succ hown'
                obtain ⟨k1, k2, k3, k4, _, k6⟩ := appFacts (S := fun _ => False) (lo := A.heap.size) (by decide) hu hrow hbd (fun _ h => h.elim) (fun h => h) g4 ⟨Nat.le_refl _, by omega⟩ hown' hgrow
                have k1c := k1.cell
                have k1f := k1.frozen
                refine hK _ _ ?_
                clear hK K
                refine wpAnyIn_ready (rs := [8]) (by kernel_rfl) (by simp) (AllReadyIn.cons rfl (fun K hK => ?_) AllReadyIn.nil)
                go_simp
                refine hK _ _ ?_
                clear hK K
                refine wpAnyIn_done (by kernel_rfl) ?_ _
                gi_wp2
                refine ⟨⟨?_, ?_⟩, k6.block 0 (by omega), ⟨_, k2, by rw [HTK.out]; exact k3⟩, g3.trans k6, Nat.le_trans g4 k6.size⟩
                · obtain ⟨o, h1, h2⟩ := HREC.out _ (.inl rfl)
                  rw [k4.same _ _ h1 h2, h1]
                · obtain ⟨o, h1, h2⟩ := HREC.out _ (.inr rfl)
                  rw [k4.same _ _ h1 h2, h1]
              · go_simp
                refine hK _ _ ?_
                clear hK K
                refine wpAnyIn_ready (rs := [0]) (by kernel_rfl) (by simp) (AllReadyIn.cons rfl (fun K hK => ?_) AllReadyIn.nil)
                go_simp
                refine hK _ _ ?_
                clear hK K
                refine wpAnyIn_ready (rs := [7]) (by kernel_rfl) (by simp) (AllReadyIn.cons rfl (fun K hK => ?_) AllReadyIn.nil)
                refine stepIn_append_own rfl (.tmp 24) (.tmp 30) 33 rfl w2.heap.size 3 i3 (.int .i64 0) 1 8 und22 hi3 hz0 hz1 hz2 rfl (by decide) (.slice ua i' uc) i' (((rows kept z).take i').map (Value.int .i64)) (by simp [Act.eval]) hrowd ⟨B.heap.size, 0, none⟩ 1 1 [.int .i64 (r : Int)] (by simp [Act.eval]) rfl hnews (by simp [Value.oneCell']) (by unfold maxLen; omega) (by omega) (by show w2.heap.size ≤ ((B.alloc (.cells #[.int .i64 (r : Int)] 3)).drew).heap.size; simp; omega) ?_
                intro v' w5 hown' hgrow
                obtain ⟨g', cap', rfl⟩ := ownsRow_succ hown'
                obtain ⟨k1, k2, k3, k4, _, k6⟩ := appFacts (S := fun _ => False) (lo := A.heap.size) (by decide) hu hrow hbd (fun _ h => h.elim) (fun h => h) g4 ⟨Nat.le_refl _, by omega⟩ hown' hgrow
                have k1c := k1.cell
                have k1f := k1.frozen
                refine hK _ _ ?_
                clear hK K
                refine wpAnyIn_ready (rs := [8]) (by kernel_rfl) (by simp) (AllReadyIn.cons rfl (fun K hK => ?_) AllReadyIn.nil)
                go_simp
                refine hK _ _ ?_
                clear hK K
                refine wpAnyIn_done (by kernel_rfl) ?_ _
                gi_wp2
                refine ⟨⟨?_, ?_⟩, k6.block 0 (by omega), ⟨_, k2, by rw [HTK.out]; exact k3⟩, g3.trans k6, Nat.le_trans g4 k6.size⟩
                · obtain ⟨o, h1, h2⟩ := HREC.out _ (.inl rfl)
                  rw [k4.same _ _ h1 h2, h1]
                · obtain ⟨o, h1, h2⟩ := HREC.out _ (.inr rfl)
                  rw [k4.same _ _ h1 h2, h1]
      case done =>
        rintro B ⟨⟨uu, g1, g2⟩, g3, g4⟩ hK
        have kB := HA.out.below g3
        have hrl : (rows kept z).length = (pts z).length := by unfold rows amL; simp
        rw [List.take_of_length_le (by omega)] at g2
        have hurow : ORow B (w.heap.size + 3) uu (amL kept z) := by
          unfold ORow
          have h1 : (amL kept z).length = (pts z).length := by unfold amL; simp
          rw [h1]
          exact own_low g2 (by omega)
        obtain ⟨vals, h1, h2⟩ := kB.o
        have hil : ((S.take i).map fun y => amL kept (y &&& kept)).length = i := by rw [List.length_map, List.length_take, hn]; omega
        have h1' := h1
        rw [hil] at h1'
        obtain ⟨da, dc, ed⟩ := own_formE h1'
        obtain ⟨ua, uc, eu⟩ := own_formE g2
        have q8 := g1.cell
        have qd : B.cell? ⟨w.heap.size + 1 + 1, 1, none⟩ = some dv := by rw [cell_of_row _ _ _ _ _ _ kB.d]; rfl
        have hbs : w.heap.size + 3 ≤ B.heap.size := kB.size
        have b5 := balloc B (.cells #[uu] 33)
        have h64 : (pts z).length ≤ 64 := pc_le z
        have kBa := kB.below b5
        have HN : Hid (∀ v' w5, w5.ownsRow (w.heap.size + 3) 33 1 v' (i + 1) (vals ++ [uu]) → (B.alloc (.cells #[uu] 33)).grownBy w5 dv.ownBlock → (w5.cell? ⟨w.heap.size + 1 + 1, 1, none⟩ = some dv ∧ w5.frozen? ⟨w.heap.size + 1 + 1, 1, none⟩ = false) ∧ AmI w kept p v' (w2.heap.size :: rs) ((S.take (i + 1)).map fun y => amL kept (y &&& kept)) (w5.setCell ⟨w.heap.size + 1 + 1, 1, none⟩ v')) := by
          intro v' w5 hown' hgr
          have hob : ∀ b o, (B.alloc (.cells #[uu] 33)).heap[b]? = some o → (b < w.heap.size + 3 ∨ o.isCells = false) → w5.heap[b]? = some o := by
            intro b o hb hc
            refine (hgr.block b (Array.getElem?_eq_some_iff.1 hb).1 fun e => ?_).trans hb
            obtain ⟨_, ⟨rfl, _⟩ | ⟨g', cap', cur', rfl, hg1, hg', _⟩⟩ := h1'
            · simp [Value.ownBlock] at e
            · have e2 : b = g' := by simpa [Value.ownBlock] using e
              subst e2
              rcases hc with hc | hc
              · omega
              · rw [(b5.block b (Array.getElem?_eq_some_iff.1 hg').1).trans hg'] at hb
                cases hb; cases hc
          have d5 := hob _ _ kBa.d (.inl (by omega))
          have r5 := hob _ _ kBa.r (.inl (by omega))
          have k5 : Boxed w5 w.heap.size 46 (.int .u64 (kept : Int)) := hob _ _ kBa.k (.inl (by omega))
          have o5 : OR w5 (w.heap.size + 3) v' (((S.take i).map fun y => amL kept (y &&& kept)) ++ [amL kept z]) :=
            OR.more (wa := B.alloc (.cells #[uu] 33)) (h1.alloc _) (fun j u l e1 e2 => ORow.below (h2 j u l e1 e2) b5) (hurow.below b5) (by rw [hil]; exact hown') hgr
          have hK5 := hob _ _ ((b5.block _ (Array.getElem?_eq_some_iff.1 hK).1).trans hK) (.inr rfl)
          have oth : ∀ b, b ≠ w.heap.size + 1 + 1 → (w5.setCell ⟨w.heap.size + 1 + 1, 1, none⟩ v').heap[b]? = w5.heap[b]? := fun b hb => heap_setCell_other w5 ⟨w.heap.size + 1 + 1, 1, none⟩ b v' hb
          refine ⟨⟨by rw [cell_of_row _ _ _ _ _ _ d5]; rfl, frozen_of_row _ _ _ _ _ d5⟩, ?_⟩
          refine ⟨boxAt k5 (oth _ (by omega)), (oth _ (by omega)).trans r5, (by have h := heap_setCell_same w5 (w.heap.size + 1 + 1) 1 #[.int .i64 (p : Int), dv] 24 v' d5; simpa using h), ?_, List.nodup_cons.2 ⟨fun h => ?_, kB.nd⟩, fun q hq => ?_, ?_⟩
          · rw [HTI.out]
            exact o5.keep fun b hb _ => oth b (by omega)
          · have := (HA.out.mks _ h).2
            have := (Array.getElem?_eq_some_iff.1 this).1
            omega
          · rcases List.mem_cons.1 hq with rfl | hq
            · exact ⟨by omega, (oth _ (by omega)).trans hK5⟩
            · have hm := kBa.mks q hq
              exact ⟨hm.1, (oth _ (by omega)).trans (hob _ _ hm.2 (.inr rfl))⟩
          · have bg : Below w.heap.size w w5 := kBa.bw.grown hgr kBa.bw.size (fun k hk => by have := (h1'.lt k hk).1; omega)
            exact bg.setCell (p := ⟨w.heap.size + 1 + 1, 1, none⟩) (by show _ ≤ w.heap.size + 1 + 1; omega) _
        have hrow2 : B.ownsRow (w.heap.size + 3) 33 1 dv i vals := h1'
        subst ed
        subst eu
        have r8 : (B.alloc (.cells #[.slice ua (pts z).length uc] 33)).cell? ⟨A.heap.size, 0, none⟩ = some (.slice ua (pts z).length uc) := (g1.alloc _).cell
        generalize (pts z).length = pl at *
        clear s1 s2 kB hurow h1 h2 h1' hil b5 kBa hrl g2 g3 g4 h64
        gi_wp2_with (gi_at_builtin; refine wpListIn_append_own _ rfl _ _ 22 rfl (w.heap.size + 3) 33 i36 (.slice none 0 0) 1 24 undR ji3 jz0 jz1 jz2 rfl (by decide) _ _ _ rfl (hrow2.alloc _) ⟨B.heap.size, 0, none⟩ 1 1 [.slice ua pl uc] rfl rfl (cell_one_new _ _ _) (by simp [Value.oneCell']) (by unfold maxLen; omega) (by omega) (by simp; omega) ?_; intro v' w5 hown' hgrow _; obtain ⟨⟨n1, n2⟩, n3⟩ := HN.out v' w5 hown' hgrow; obtain ⟨g', cap', rfl⟩ := ownsRow_succ hown')
        refine ⟨⟨_, _, _, _, _, _, _, _, _, _, _, _, _, _, _, _, _, _, _, _, _, _, _, _, _, _, i + 1, _, w2.heap.size :: rs, rfl, by omega, n3⟩, ?_⟩
        show n - ((i : Int) + 1).toNat < n - ((i : Int)).toNat
        omega
    · have hd : decide ((i : Int) < (n : Int)) = false := by simp; omega
      obtain rfl : i = n := by omega
      rw [HALL.out] at hA
      have x0 : A.cell? ⟨w.heap.size + 1 + 1, 0, none⟩ = some (.int .i64 (p : Int)) := by rw [cell_of_row _ _ _ _ _ _ hA.d]; rfl
      have x1 : A.cell? ⟨w.heap.size + 1 + 1, 1, none⟩ = some dv := by rw [cell_of_row _ _ _ _ _ _ hA.d]; rfl
      have y0 : A.cell? ⟨w.heap.size + 1, 0, none⟩ = some (.int .i64 0) := by rw [cell_of_row _ _ _ _ _ _ hA.r]; rfl
      have y1 : A.cell? ⟨w.heap.size + 1, 1, none⟩ = some (.slice none 0 0) := by rw [cell_of_row _ _ _ _ _ _ hA.r]; rfl
      have z0 : A.frozen? ⟨w.heap.size + 1, 0, none⟩ = false := frozen_of_row _ _ _ _ _ hA.r
      have z1 : A.frozen? ⟨w.heap.size + 1, 1, none⟩ = false := frozen_of_row _ _ _ _ _ hA.r
      obtain ⟨vals, h1, h2⟩ := id hA.o
      obtain ⟨da, dc, ed⟩ := own_formE h1
      subst ed
      clear h1 h2
      generalize (List.map (fun y => amL kept (y &&& kept)) S).length = ll at *
      gi_wp2
      obtain ⟨C, HCw⟩ : ∃ C, Hid (C = (A.setCell ⟨w.heap.size + 1, 0, none⟩ (.int .i64 (p : Int))).setCell ⟨w.heap.size + 1, 1, none⟩ (.slice da ll dc)) := ⟨_, rfl⟩
      have hr5 : C.heap[w.heap.size + 1]? = some (.cells #[.int .i64 (p : Int), .slice da ll dc] 24 (0, 0)) := by
        rw [HCw.out]
        have h1 := heap_setCell_same A (w.heap.size + 1) 0 #[.int .i64 0, .slice none 0 0] 24 (.int .i64 (p : Int)) hA.r
        have h2 := heap_setCell_same _ (w.heap.size + 1) 1 _ 24 (.slice da ll dc) h1
        simpa using h2
      have oth : ∀ b, b ≠ w.heap.size + 1 → C.heap[b]? = A.heap[b]? := fun b hb => by
        rw [HCw.out]
        exact (heap_setCell_other _ ⟨w.heap.size + 1, 1, none⟩ b _ hb).trans (heap_setCell_other A ⟨w.heap.size + 1, 0, none⟩ b _ hb)
      have bC : Below w.heap.size A C := by
        rw [HCw.out]
        exact ((Below.refl _ A).setCell (p := ⟨w.heap.size + 1, 0, none⟩) (by show _ ≤ w.heap.size + 1; omega) _).setCell (p := ⟨w.heap.size + 1, 1, none⟩) (by show _ ≤ w.heap.size + 1; omega) _
      have oC : OR C (w.heap.size + 3) (.slice da ll dc) (S.map fun y => amL kept (y &&& kept)) := hA.o.keep fun b hb _ => oth b (by omega)
      rw [← HCw.out]
      refine marks_leave2 (m := w.heap.size + 3) rs C hA.nd (fun q hq => ⟨(hA.mks q hq).1, (oth q (by have := (hA.mks q hq).1; omega)).trans (hA.mks q hq).2⟩) fun D hb hc => ?_
      exact ⟨_, results_cell_row rfl _ D (w.heap.size + 1) 24 #[.int .i64 (p : Int), .slice da ll dc] (0, 0) _ rfl (hc.2 _ _ hr5 rfl) Tryd.underlying24 rfl inf24, _, rfl, hc.or oC, (hA.bw.trans bC).trans (hb.mono (by omega))⟩

end Go.Proofs.YtnnopfdckillpaaDoor
