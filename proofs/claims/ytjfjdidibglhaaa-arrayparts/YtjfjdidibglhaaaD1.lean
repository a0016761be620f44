/- The library's Grow by its contract; the walk of its Concat at two lists of numbers; what is appended, read as cells. -/
import Derived.Test.YtjfjdidibglhaaaA1
import Derived.Maps.AppendAt
import Derived.Deep.AppendLies
import Derived.Deep.MidRow
import Derived.Shelf.Spec.SlicesGrow
namespace Go.Proofs.Ytjfjdidibglhaaa
open Go.Shelf Go.RowKit Go.Maps

/-- What is appended: nothing, or so many cells. -/
def SrcC (w : World) (x : Value) (m : Nat) (news : List Value) : Prop := (∃ c, x = .slice none 0 c ∧ m = 0 ∧ news = []) ∨ ∃ ad c, x = .slice (some ad) m c ∧ news.length = m ∧ ∀ (j : Nat) (u : Value), news[j]? = some u → w.cell? (ad.add j) = some u
theorem run_append_none_c {P : Program} {w : World} (base : Nat) (t ty e : TypeId) (i : TypeInfo) (size c : Nat) (ht : P.underlying t = some (.slice e)) (hi : P.info? e = some i)
    (v : Value) (n : Nat) (xs : List Value) (hown : w.ownsRow base e size v n xs) : (Builtin.append_ #[t, t] ty #[v, .slice none 0 c]).run P w = .ok v w := by
  rcases hown.2 with ⟨rfl, rfl⟩ | ⟨g, cap, cur, rfl, _, _, hnc, _⟩
  · simp [Builtin.append_, run_underlying ht, sizeOf, typeInfo, hi, Builtin.lenOf, Builtin.firstCells]
  · simp [Builtin.append_, run_underlying ht, sizeOf, typeInfo, hi, Builtin.lenOf, Builtin.firstCells, hnc, storeCells]
theorem wpList_append_srcC {P : Program} (w : World) {ops : Array Oper} {rest : List Oper} {o : Oper} {a : Act} {Q : Exit → Act → World → Prop} (hgd : o.guard = none) (s x : Operand) (t : TypeId)
    (ho : o.op = .call { callee := .builtin .append, args := #[s, x], argTypes := #[t, t] })
    (base : Nat) (e : TypeId) (i : TypeInfo) (z : Value) (bytes : Nat) (ht : P.underlying t = some (.slice e)) (hi : P.info? e = some i) (hz : i.zero = some z)
    (hsize : i.size = 1) (hby : i.bytes = bytes) (hzs : z.cells.size = 1)
    (v : Value) (n : Nat) (xs : List Value) (hs : a.eval s = v) (hown : w.ownsRow base e 1 v n xs)
    (vx : Value) (m : Nat) (news : List Value) (hx : a.eval x = vx) (hsrc : SrcC w vx m news) (h1 : ∀ u ∈ news, u.oneCell' = true)
    (h63 : n + m ≤ maxLen) (hbytes : (n + m) * bytes ≤ 140737488355328) (hbase : base ≤ w.heap.size)
    (h : ∀ v' w', w'.ownsRow base e 1 v' (n + m) (xs ++ news) → w.grownBy w' v.ownBlock → wpList P ops Q rest (a.put o.dst v') w') :
    wpList P ops Q (o :: rest) a w := by
  rcases hsrc with ⟨c, rfl, rfl, rfl⟩ | ⟨ad, c, rfl, hl, hnews⟩
  · refine wpList_plain hgd fun K hK => ?_
    have hr := run_append_none_c (P := P) base t o.type e i 1 c ht hi v n xs hown
    unfold Oper.wp execOp
    simp only [ho, resolve, invoke, builtin, Sem.run_bind, Sem.run_pure, Result.andThen_ok, List.map_toArray, List.map_cons, List.map_nil, hs, hx, hr]
    exact hK _ _ (h v w (by rw [List.append_nil]; exact hown) ⟨rfl, rfl, rfl, Nat.le_refl _, fun _ _ _ => rfl⟩)
  · exact wpList_append_own_at w hgd s x t ho base e i z 1 bytes ht hi hz hsize hby hzs (by decide) v n xs hs hown ad m c news hx (by rw [hl, Nat.mul_one]) hnews h1 h63 hbytes hbase fun v' w' h2 h3 _ _ => h v' w' h2 h3
/-- The numbers of a list as cells. -/
theorem sl_src {w : World} {u : Value} {l : List Int} (hu : Sl w u l) : ∀ W, Below w.heap.size w W → SrcC W u l.length (l.map (Value.int .i64)) := by
  obtain ⟨a, ca, rfl, hA⟩ := hu
  intro W hW
  cases a with
  | none =>
    have h0 : l.length = 0 := by
      rcases Nat.eq_zero_or_pos l.length with h | h
      · exact h
      · obtain ⟨b, off, e, _⟩ := hA 0 h
        cases e
    rw [h0, List.length_eq_zero_iff.1 h0]
    exact .inl ⟨ca, rfl, rfl, rfl⟩
  | some ad =>
    refine .inr ⟨ad, ca, rfl, by simp, fun j u hj => ?_⟩
    have hjn : j < l.length := by have := (List.getElem?_eq_some_iff.1 hj).1; simpa using this
    obtain ⟨b, off, e, hc⟩ := hA j hjn
    cases e
    have hu : Value.int .i64 (l.getD j 0) = u := by
      rw [List.getElem?_map, List.getElem?_eq_getElem hjn] at hj
      simpa [List.getD_eq_getElem?_getD, hjn] using hj
    rw [Addr.add_mid, ← hu]
    exact (hW.cell (World.block_lt_of_cell? _ _ hc)).trans hc
theorem own_sliceI {w : World} {base n : Nat} {v : Value} {xs : List Value} (h : w.ownsRow base 3 1 v n xs) : ∃ a c, v = .slice a n c := by
  obtain ⟨_, ⟨rfl, rfl⟩ | ⟨g, cap, cur, rfl, _⟩⟩ := h
  · exact ⟨_, _, rfl⟩
  · exact ⟨_, _, rfl⟩

def growInt_ren : Go.Shelf.Ren := ⟨fun | 4 => 42 | n => n, fun | 22 => 40 | 25 => 3 | 3 => 3 | 4 => 4 | 9 => 9 | 20 => 20 | 0 => 0 | n => n, fun | n => n⟩
theorem growInt : Go.Proofs.Lays8.n4 Try.prog growInt_ren := {
  mixed := by kernel_rfl
  f4 := ⟨Try.f42.name, by decide, Try.func42.trans (congrArg some (by kernel_rfl))⟩
  t0 := Try.underlying0
  a0 := Try.isAgg0
  z0 := Try.sizeOf0
  v0 := Try.zeroValue0
  t3 := Try.underlying3
  a3 := Try.isAgg3
  z3 := Try.sizeOf3
  v3 := Try.zeroValue3
  t4 := Try.underlying4
  a4 := Try.isAgg4
  z4 := Try.sizeOf4
  v4 := Try.zeroValue4
  t9 := Try.underlying9
  a9 := Try.isAgg9
  z9 := Try.sizeOf9
  v9 := Try.zeroValue9
  t20 := Try.underlying20
  a20 := Try.isAgg20
  z20 := Try.sizeOf20
  v20 := Try.zeroValue20
  t22 := Try.underlying40
  a22 := Try.isAgg40
  z22 := Try.sizeOf40
  v22 := Try.zeroValue40 }

/-- Grow of nothing: a row of one's own with room for n. -/
theorem Grow_any (n : Nat) (w : World) (h1 : 1 ≤ n) (h9 : n ≤ 100) :
    Calls Try.prog 42 #[.slice none 0 0, .int .i64 (n : Int)] w fun e w' => ∃ cap, e = .returned (.slice (some ⟨w.heap.size, 0, none⟩) 0 cap) ∧ w'.ownsRow w.heap.size 3 1 (.slice (some ⟨w.heap.size, 0, none⟩) 0 cap) 0 [] ∧ Below w.heap.size w w' := by
  obtain ⟨i3, hi, hz0, hz1, hz2⟩ := info3
  have C := Any8.slices_Grow_grow growInt i3 (.int .i64 0) hi hz0 (by omega) none 0 0 n [] w (Nat.le_refl _) (by omega) (by rw [hz2]; omega) (by omega) (by simp) (fun _ => rfl) (fun a h => by cases h)
  change Calls Try.prog 42 _ _ _ at C
  refine C.mono ?_
  rintro e w' ⟨rfl, rfl⟩
  obtain ⟨G, hG⟩ : ∃ G, G = grownCap w (0 + n) 0 (growInt_ren.t 25) := ⟨_, rfl⟩
  have hge : 0 + n ≤ G := by rw [hG]; exact grownCap_ge w _ _ _
  have hle : G ≤ maxLen := by rw [hG]; exact grownCap_le_maxLen w (0 + n) 0 _ (by unfold maxLen; omega)
  rw [← hG]
  refine ⟨G, rfl, ⟨by simp, .inr ⟨w.heap.size, G, _, rfl, Nat.le_refl _, heap_alloc_new w.drew _, Nat.zero_le _, hle, ?_, by simp⟩⟩, (Below.refl _ w).drew.alloc (Nat.le_refl _) _⟩
  simp [size_zeroCells, Value.cells]
  omega

theorem lenF_take {ls : List (List Int)} {j : Nat} {l : List Int} (h : ls[j]? = some l) : (ls.take (j + 1)).flatten = (ls.take j).flatten ++ l := by
  have hj := (List.getElem?_eq_some_iff.1 h).1
  rw [List.take_add_one, h, Option.toList_some, List.flatten_append]
  simp
theorem lenF_le (ls : List (List Int)) (j : Nat) : (ls.take j).flatten.length ≤ ls.flatten.length := by
  conv => rhs; rw [← List.take_append_drop j ls, List.flatten_append, List.length_append]
  omega

set_option maxRecDepth 100000 in
set_option maxRecDepth 100000 in
set_option maxHeartbeats 8000000 in
theorem Concat_any (u : Value) (ls : List (List Int)) (w : World) (hu : Rw w u ls) (hm2 : ls.length ≤ 2) (h1 : 1 ≤ ls.flatten.length) (h9 : ls.flatten.length ≤ 100) :
    Calls Try.prog 35 #[u] w fun e w' => ∃ y, e = .returned y ∧ w'.ownsRow w.heap.size 3 1 y ls.flatten.length (ls.flatten.map (Value.int .i64)) ∧ Below w.heap.size w w' := by
  obtain ⟨i3, ti, tz0, tz1, tz2⟩ := info3
  have HI3 : Hid (Try.prog.info? 3 = some i3 ∧ i3.zero = some (.int .i64 0) ∧ i3.size = 1 ∧ i3.bytes = 8) := ⟨ti, tz0, tz1, tz2⟩
  clear ti tz0 tz1 tz2
  obtain ⟨r, Hr⟩ : ∃ r, Hid (ls.length = r) := ⟨_, rfl⟩
  obtain ⟨T, HT⟩ : ∃ T, Hid (ls.flatten.length = T) := ⟨_, rfl⟩
  have HU : Hid (Rw w u ls) := hu
  obtain ⟨ua, uc, rfl, -⟩ := hu
  have HC : Hid (∀ j, j < r → ∃ l ub uo sa sc, ls[j]? = some l ∧ ua = some ⟨ub, uo, none⟩ ∧ (∀ W, Below w.heap.size w W → W.cell? ⟨ub, uo + j, none⟩ = some (.slice sa l.length sc)) ∧ ∀ W, Below w.heap.size w W → SrcC W (.slice sa l.length sc) l.length (l.map (Value.int .i64))) := fun j hj => by
    have hj' : j < ls.length := by rw [Hr.out]; exact hj
    obtain ⟨b, off, x, e, hc, hs⟩ := HU.out.at (i := j) (l := ls[j]) (by simp) rfl
    obtain ⟨sa, sc, rfl, hh⟩ := hs
    exact ⟨ls[j], b, off, sa, sc, by simp, e, fun W bW => (bW.cell (p := ⟨b, off + j, none⟩) (block_lt_of_cell hc)).trans hc, sl_src ⟨sa, sc, rfl, hh⟩⟩
  have HLE : Hid (∀ j, (ls.take j).flatten.length ≤ T) := fun j => by rw [← HT.out]; exact lenF_le ls j
  have HFl : Hid (∀ (j : Nat) (l : List Int), ls[j]? = some l → (ls.take (j + 1)).flatten = (ls.take j).flatten ++ l) := fun j l h => lenF_take h
  have HEn : Hid ((ls.take r).flatten = ls.flatten) := by show _ = _; rw [List.take_of_length_le (by rw [Hr.out]; exact Nat.le_refl _)]
  rw [HT.out] at h9 h1 ⊢
  rw [Hr.out] at hm2 ⊢
  have C := fun W => Grow_any T W h1 h9
  clear HU
  go_enter Try.func35, Try.ntmps35
  go_wp2
  go_loopw [3, 5, 11] (fun s _ i wr => ∃ j m : Nat, i = .int .i64 (j : Int) ∧ j ≤ r ∧ s = .int .i64 (m : Int) ∧ Hid ((ls.take j).flatten.length = m) ∧ wr = w) (fun _ _ i _ => (r - intOf i).toNat)
  case atStart => exact ⟨0, 0, rfl, by omega, rfl, (by simp : (ls.take 0).flatten.length = 0), rfl⟩
  case round =>
    obtain ⟨j, m, rfl, hj, rfl, HM, hw⟩ := hrel
    replace hw := hw.symm
    subst hw
    by_cases hlt : j < r
    · have hji : (j : Int) < r := by omega
      have hdec : decide ((j : Int) < r) = true := by simp; omega
      obtain ⟨l, ub, uo, sa, sc, hrj, rfl, hcell, -⟩ := HC.out j hlt
      have hc1 := hcell _ (Below.refl _ _)
      have hm2' := HLE.out (j + 1)
      rw [HFl.out j l hrj, List.length_append, HM.out] at hm2'
      have HM2 : Hid ((ls.take (j + 1)).flatten.length = m + l.length) := by
        show _ = _
        rw [HFl.out j l hrj, List.length_append, HM.out]
      generalize l.length = n at *
      have hd0 : decide ((m : Int) + (n : Int) < 0) = false := by simp; omega
      clear hcell hrj
      go_wp2
      go_roundw
      case rel => exact ⟨j + 1, m + n, by go_num, by omega, by go_num, HM2, by first | rfl | trivial⟩
      case measure => simp [intOf]; omega
    · have hdec : decide ((j : Int) < r) = false := by simp; omega
      obtain rfl : r = j := by omega
      have hmT : m = T := by rw [← HM.out, ← HT.out, HEn.out]
      subst hmT
      go_wp2_with (go_at_call 42; refine (C _).mono ?_; rintro e w1 ⟨sc0, rfl, hown, b1⟩; clear C)
      go_loopw [6, 8, 27] (fun u _ i wr => ∃ (j m2 : Nat), i = .int .i64 (j : Int) ∧ j ≤ r ∧ Hid ((ls.take j).flatten.length = m2) ∧ wr.ownsRow w.heap.size 3 1 u m2 ((ls.take j).flatten.map (Value.int .i64)) ∧ Below w.heap.size w wr) (fun _ _ i _ => (r - intOf i).toNat)
      case atStart => exact ⟨0, 0, rfl, by omega, (by simp : (ls.take 0).flatten.length = 0), by simpa using hown, b1⟩
      case round =>
        clear hown b1
        obtain ⟨j, m2, rfl, hj2, HM2, hown, b2⟩ := hrel
        obtain ⟨ga, gc, rfl⟩ := own_sliceI hown
        have hbs := b2.size
        have hm2T := HLE.out j
        rw [HM2.out] at hm2T
        by_cases hlt2 : j < r
        · have hji : (j : Int) < r := by omega
          have hdec2 : decide ((j : Int) < r) = true := by simp; omega
          obtain ⟨l, ub, uo, sa, sc, hrj, rfl, hcell, hsrc⟩ := HC.out j hlt2
          have hc1 := hcell _ b2
          have hsr := hsrc _ b2
          have hm3 := HLE.out (j + 1)
          rw [HFl.out j l hrj, List.length_append, HM2.out] at hm3
          have HM3 : Hid ((ls.take (j + 1)).flatten.length = m2 + l.length) := by
            show _ = _
            rw [HFl.out j l hrj, List.length_append, HM2.out]
          have HX3 : Hid ((ls.take (j + 1)).flatten.map (Value.int .i64) = (ls.take j).flatten.map (Value.int .i64) ++ l.map (Value.int .i64)) := by
            show _ = _
            rw [HFl.out j l hrj, List.map_append]
          have hone : ∀ u ∈ l.map (Value.int .i64), u.oneCell' = true := fun u hu => by
            obtain ⟨z, _, rfl⟩ := List.mem_map.1 hu
            rfl
          obtain ⟨us, Hus⟩ : ∃ us, Hid ((ls.take j).flatten.map (Value.int .i64) = us) := ⟨_, rfl⟩
          obtain ⟨us2, Hus2⟩ : ∃ us2, Hid (l.map (Value.int .i64) = us2) := ⟨_, rfl⟩
          rw [Hus.out] at hown HX3
          rw [Hus2.out] at hsr HX3 hone
          generalize l.length = n at *
          have hi3 := HI3.out.1
          have hz0 := HI3.out.2.1
          have hz1 := HI3.out.2.2.1
          have hz2 := HI3.out.2.2.2
          clear hcell hrj hsrc
          go_wp2_with (first
            | (at_builtin; refine wpList_append_srcC _ rfl _ _ 40 rfl w.heap.size 3 i3 (.int .i64 0) 8 und22 hi3 hz0 hz1 hz2 rfl (.slice ga m2 gc) m2 us rfl hown (.slice sa n sc) n us2 rfl hsr hone (by (unfold maxLen; omega)) (by omega) hbs ?_; intro v' w4 hown4 hgrow)
            | go_in)
          obtain ⟨va, vc, rfl⟩ := own_sliceI hown4
          have b4 := b2.grown hgrow hbs (fun k hk => (hown.lt k hk).1)
          clear hown hgrow hsr hone b2 hi3 hz0 hz1 hz2
          go_wp2
          go_roundw
          case rel => exact ⟨j + 1, m2 + n, by go_num, by omega, HM3, by rw [HX3.out]; exact hown4, b4⟩
          case measure => simp [intOf]; omega
        · have hdec2 : decide ((j : Int) < r) = false := by simp; omega
          obtain rfl : r = j := by omega
          rw [HEn.out] at HM2 hown
          obtain rfl : m = m2 := HT.out.symm.trans HM2.out
          go_wp2
          go_ret
          exact ⟨_, rfl, hown, b2⟩
end Go.Proofs.Ytjfjdidibglhaaa
