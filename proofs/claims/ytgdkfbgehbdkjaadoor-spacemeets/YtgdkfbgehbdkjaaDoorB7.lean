/- The walks of has, Basis, Normal, Join, Meet and Has. -/
import Derived.Test.YtgdkfbgehbdkjaaDoorB5
import Derived.Shelf.Spec.SlicesGrow
import Derived.Maps.AppendAt
import Derived.Deep.AppendLies
import Derived.Deep.MidRow
import Derived.Deep.RegionHeld3
/- The library's Grow by its contract, and the walk of its Concat, at rows. -/
namespace Go.Proofs.YtgdkfbgehbdkjaaDoor
open Go.Shelf Go.RowKit Go.Maps

/-- What is appended: nothing, or so many cells. -/
def SrcC (w : World) (x : Value) (m : Nat) (news : List Value) : Prop := (∃ c, x = .slice none 0 c ∧ m = 0 ∧ news = []) ∨ ∃ ad c, x = .slice (some ad) m c ∧ news.length = m ∧ ∀ (j : Nat) (u : Value), news[j]? = some u → w.cell? (ad.add j) = some u
theorem run_append_none_c {P : Program} {w : World} (base : Nat) (t ty e : TypeId) (i : TypeInfo) (size c : Nat) (ht : P.underlying t = some (.slice e)) (hi : P.info? e = some i)
    (v : Value) (n : Nat) (xs : List Value) (hown : w.ownsRow base e size v n xs) : (Builtin.append_ #[t, t] ty #[v, .slice none 0 c]).run P w = .ok v w := by
  rcases hown.2 with ⟨rfl, rfl⟩ | ⟨g, cap, cur, rfl, _, _, hnc, _⟩
  · simp [Builtin.append_, run_underlying ht, sizeOf, typeInfo, hi, Builtin.lenOf, Builtin.firstCells]
  · simp [Builtin.append_, run_underlying ht, sizeOf, typeInfo, hi, Builtin.lenOf, Builtin.firstCells, hnc, storeCells]
theorem wpList_append_srcC {P : Program} (w : World) {ops : Array Oper} {rest : List Oper} {o : Oper} {a : Act} {Q : Exit → Act → World → Prop} (hgd : o.guard = none) (s x : Operand) (t : TypeId)
    (ho : o.op = .call { callee := .builtin .append, args := #[s, x], argTypes := #[t, t] })
    (base : Nat) (e : TypeId) (i : TypeInfo) (z : Value) (bytes : Nat) (ht : P.underlying t = some (.slice e)) (hi : P.info? e = some i) (hz : i.zero = some z)
    (hsize : i.size = 1) (hby : i.bytes = bytes) (hzs : z.cells.size = 1)
    (v : Value) (n : Nat) (xs : List Value) (hs : a.eval s = v) (hown : w.ownsRow base e 1 v n xs)
    (vx : Value) (m : Nat) (news : List Value) (hx : a.eval x = vx) (hsrc : SrcC w vx m news) (h1 : ∀ u ∈ news, u.oneCell' = true)
    (h63 : n + m ≤ maxLen) (hbytes : (n + m) * bytes ≤ 140737488355328) (hbase : base ≤ w.heap.size)
    (h : ∀ v' w', w'.ownsRow base e 1 v' (n + m) (xs ++ news) → w.grownBy w' v.ownBlock → wpList P ops Q rest (a.put o.dst v') w') :
    wpList P ops Q (o :: rest) a w := by
  rcases hsrc with ⟨c, rfl, rfl, rfl⟩ | ⟨ad, c, rfl, hl, hnews⟩
  · refine wpList_plain hgd fun K hK => ?_
    have hr := run_append_none_c (P := P) base t o.type e i 1 c ht hi v n xs hown
    unfold Oper.wp execOp
    simp only [ho, resolve, invoke, builtin, Sem.run_bind, Sem.run_pure, Result.andThen_ok, List.map_toArray, List.map_cons, List.map_nil, hs, hx, hr]
    exact hK _ _ (h v w (by rw [List.append_nil]; exact hown) ⟨rfl, rfl, rfl, Nat.le_refl _, fun _ _ _ => rfl⟩)
  · exact wpList_append_own_at w hgd s x t ho base e i z 1 bytes ht hi hz hsize hby hzs (by decide) v n xs hs hown ad m c news hx (by rw [hl, Nat.mul_one]) hnews h1 h63 hbytes hbase fun v' w' h2 h3 _ _ => h v' w' h2 h3

def growR_ren : Go.Shelf.Ren := ⟨fun | 4 => 56 | n => n, fun | 22 => 25 | 25 => 22 | 3 => 3 | 4 => 4 | 9 => 9 | 20 => 20 | 0 => 0 | n => n, fun | n => n⟩
set_option maxRecDepth 100000 in
theorem growR : Go.Proofs.Lays8.n4 Tryd.prog growR_ren := {
  mixed := by kernel_rfl
  f4 := ⟨Tryd.f56.name, by decide, Tryd.func56.trans (congrArg some (by kernel_rfl))⟩
  t0 := Tryd.underlying0
  a0 := Tryd.isAgg0
  z0 := Tryd.sizeOf0
  v0 := Tryd.zeroValue0
  t3 := Tryd.underlying3
  a3 := Tryd.isAgg3
  z3 := Tryd.sizeOf3
  v3 := Tryd.zeroValue3
  t4 := Tryd.underlying4
  a4 := Tryd.isAgg4
  z4 := Tryd.sizeOf4
  v4 := Tryd.zeroValue4
  t9 := Tryd.underlying9
  a9 := Tryd.isAgg9
  z9 := Tryd.sizeOf9
  v9 := Tryd.zeroValue9
  t20 := Tryd.underlying20
  a20 := Tryd.isAgg20
  z20 := Tryd.sizeOf20
  v20 := Tryd.zeroValue20
  t22 := Tryd.underlying25
  a22 := Tryd.isAgg25
  z22 := Tryd.sizeOf25
  v22 := Tryd.zeroValue25 }
/-- Grow of nothing: a row of one's own with room for n, or nothing. -/
theorem GrowR_any (n : Nat) (w : World) (h9 : n ≤ 100) :
    Calls Tryd.prog 56 #[.slice none 0 0, .int .i64 (n : Int)] w fun e w' => ∃ x, e = .returned x ∧ w'.ownsRow w.heap.size 22 1 x 0 [] ∧ Below w.heap.size w w' := by
  rcases Nat.eq_zero_or_pos n with h0 | h1
  · subst h0
    go_enter Tryd.func56, Tryd.ntmps56
    go_wp2
    go_ret
    exact ⟨_, rfl, World.ownsRow_nil _ _ _ _, Below.refl _ _⟩
  · obtain ⟨i22, hi, hz0, hz1, hz2⟩ := info36
    have C := Any8.slices_Grow_grow growR i22 (.slice none 0 0) hi hz0 (by omega) none 0 0 n [] w (Nat.le_refl _) (by omega) (by rw [hz2]; omega) (by omega) (by simp) (fun _ => rfl) (fun a h => by cases h)
    change Calls Tryd.prog 56 _ _ _ at C
    refine C.mono ?_
    rintro e w' ⟨rfl, rfl⟩
    obtain ⟨G, hG⟩ : ∃ G, G = grownCap w (0 + n) 0 (growR_ren.t 25) := ⟨_, rfl⟩
    have hge : 0 + n ≤ G := by rw [hG]; exact grownCap_ge w _ _ _
    have hle : G ≤ maxLen := by rw [hG]; exact grownCap_le_maxLen w (0 + n) 0 _ (by unfold maxLen; omega)
    rw [← hG]
    refine ⟨_, rfl, ⟨by simp, .inr ⟨w.heap.size, G, _, rfl, Nat.le_refl _, heap_alloc_new w.drew _, Nat.zero_le _, hle, ?_, by simp⟩⟩, (Below.refl _ w).drew.alloc (Nat.le_refl _) _⟩
    simp [size_zeroCells, Value.cells]
    omega
/-- Headers of rows. -/
def HdR (w : World) (us : List Value) (ls : List (List Int)) : Prop := us.length = ls.length ∧ ∀ (i : Nat) l, ls[i]? = some l → ∃ u, us[i]? = some u ∧ Sl w u l
theorem HdR.append {w : World} {us vs : List Value} {ls ms : List (List Int)} (h : HdR w us ls) (k : HdR w vs ms) : HdR w (us ++ vs) (ls ++ ms) := by
  refine ⟨by rw [List.length_append, List.length_append, h.1, k.1], fun i l hl => ?_⟩
  by_cases hi : i < ls.length
  · rw [List.getElem?_append_left hi] at hl
    rw [List.getElem?_append_left (by rw [h.1]; exact hi)]
    exact h.2 i l hl
  · rw [List.getElem?_append_right (by omega)] at hl
    rw [List.getElem?_append_right (by rw [h.1]; omega), h.1]
    exact k.2 _ l hl
theorem HdR.one {w : World} {us : List Value} {ls : List (List Int)} (h : HdR w us ls) : ∀ u ∈ us, u.oneCell' = true := fun u hu => by
  obtain ⟨i, hi, rfl⟩ := List.getElem_of_mem hu
  have hi' : i < ls.length := by rw [← h.1]; exact hi
  obtain ⟨u', h1, a, c, e, _⟩ := h.2 i ls[i] (List.getElem?_eq_getElem hi')
  rw [List.getElem?_eq_getElem hi] at h1
  rw [Option.some.inj h1, e]
  rfl
/-- Rows that are read, as what is appended. -/
theorem rw_src {w : World} {x : Value} {ls : List (List Int)} (h : Rw w x ls) : ∃ us, HdR w us ls ∧ ∀ W, Below w.heap.size w W → SrcC W x ls.length us := by
  obtain ⟨a, cap, rfl, h⟩ := h
  cases a with
  | none =>
    have h0 : ls = [] := by
      cases ls with
      | nil => rfl
      | cons l ls =>
        obtain ⟨b, off, u, e, _⟩ := h 0 l rfl
        cases e
    subst h0
    exact ⟨[], ⟨rfl, fun i l hl => by simp at hl⟩, fun W _ => .inl ⟨cap, rfl, rfl, rfl⟩⟩
  | some ad =>
    have hU : ∀ i : Nat, ∃ u : Value, ∀ l, ls[i]? = some l → (∀ W, Below w.heap.size w W → W.cell? (ad.add i) = some u) ∧ Sl w u l := fun i => by
      cases hi : ls[i]? with
      | none => exact ⟨.slice none 0 0, fun l h => by cases h⟩
      | some l =>
        obtain ⟨b, off, u, e, hc, hs⟩ := h i l hi
        cases e
        exact ⟨u, fun l' h' => by cases h'; exact ⟨fun W bW => by rw [Addr.add_mid]; exact (bW.cell (block_lt_of_cell hc)).trans hc, hs⟩⟩
    obtain ⟨U, hU'⟩ := Classical.axiomOfChoice hU
    refine ⟨(List.range ls.length).map U, ⟨by simp, fun i l hl => ?_⟩, fun W bW => .inr ⟨ad, cap, rfl, by simp, fun j u hj => ?_⟩⟩
    · have hi : i < ls.length := (List.getElem?_eq_some_iff.1 hl).1
      exact ⟨U i, by simp [hi], (hU' i l hl).2⟩
    · have hj' : j < ls.length := by have := (List.getElem?_eq_some_iff.1 hj).1; simpa using this
      have hu : U j = u := by simpa [hj'] using hj
      rw [← hu]
      exact (hU' j ls[j] (List.getElem?_eq_getElem hj')).1 W bW
theorem hdr_rw {w0 w : World} {base : Nat} {v : Value} {us : List Value} {ls : List (List Int)} (h : w.ownsRow base 22 1 v ls.length us) (hd : HdR w0 us ls) (hb : Below w0.heap.size w0 w) : Rw w v ls := by
  obtain ⟨h1, ⟨rfl, h0⟩ | ⟨g, cap, cur, rfl, hg0, hg, h2, h3, h4, ht⟩⟩ := h
  · have : ls = [] := List.length_eq_zero_iff.1 h0
    subst this
    exact ⟨none, 0, rfl, fun i l hi => by simp at hi⟩
  · refine ⟨_, cap, rfl, fun i l hi => ?_⟩
    obtain ⟨u, h5, h6⟩ := hd.2 i l hi
    have hil : i < ls.length := (List.getElem?_eq_some_iff.1 hi).1
    refine ⟨g, 0, u, rfl, ?_, h6.below hb⟩
    rw [cell_of_row w g _ cur 22 (0, 0) hg, Nat.zero_add, ← Array.getElem?_toList]
    have h7 : (cur.toList.take (ls.length * 1))[i]? = us[i]? := by rw [ht]
    rw [List.getElem?_take, if_pos (by omega)] at h7
    rw [h7, h5]
theorem flat_take {ls : List (List (List Int))} {j : Nat} {l : List (List Int)} (h : ls[j]? = some l) : (ls.take (j + 1)).flatten = (ls.take j).flatten ++ l := by
  rw [List.take_add_one, h, Option.toList_some, List.flatten_append]
  simp
theorem flat_le (ls : List (List (List Int))) (j : Nat) : (ls.take j).flatten.length ≤ ls.flatten.length := by
  conv => rhs; rw [← List.take_append_drop j ls, List.flatten_append, List.length_append]
  omega
theorem own_slice {w : World} {base n : Nat} {v : Value} {xs : List Value} (h : w.ownsRow base 22 1 v n xs) : ∃ a c, v = .slice a n c := by
  obtain ⟨_, ⟨rfl, h0⟩ | ⟨g, cap, cur, rfl, _⟩⟩ := h
  · exact ⟨none, 0, by rw [h0]⟩
  · exact ⟨_, _, rfl⟩
set_option maxRecDepth 100000 in
set_option maxHeartbeats 8000000 in
theorem ConcatR_any (u : Value) (vs : List Value) (rss : List (List (List Int))) (w : World) (hu : LsR w u vs rss) (hm2 : rss.length ≤ 2) (h9 : rss.flatten.length ≤ 100) :
    Calls Tryd.prog 38 #[u] w fun e w' => ∃ y, e = .returned y ∧ Rw w' y rss.flatten ∧ Below w.heap.size w w' := by
  obtain ⟨i22, ti, tz0, tz1, tz2⟩ := info36
  obtain ⟨ub, uc, rfl, hvl, hls⟩ := hu
  obtain ⟨r, Hr⟩ : ∃ r, Hid (rss.length = r) := ⟨_, rfl⟩
  obtain ⟨T, HT⟩ : ∃ T, Hid (rss.flatten.length = T) := ⟨_, rfl⟩
  have HC : Hid (∀ j, j < r → ∃ rs sa sc us, rss[j]? = some rs ∧ (∀ W, Below w.heap.size w W → W.cell? ⟨ub, j, none⟩ = some (.slice sa rs.length sc)) ∧ HdR w us rs ∧ ∀ W, Below w.heap.size w W → SrcC W (.slice sa rs.length sc) rs.length us) := fun j hj => by
    have hj' : j < rss.length := by rw [Hr.out]; exact hj
    obtain ⟨h1, h2, h3⟩ := hls j (vs[j]'(by omega)) rss[j] (by simp) (by simp)
    obtain ⟨us, h4, h5⟩ := rw_src h2
    obtain ⟨sa, sc, e, _⟩ := h2
    rw [e] at h1 h5
    exact ⟨rss[j], sa, sc, us, by simp, fun W bW => (bW.cell (block_lt_of_cell h1)).trans h1, h4, h5⟩
  have HLE : Hid (∀ j, (rss.take j).flatten.length ≤ T) := fun j => by rw [← HT.out]; exact flat_le rss j
  have HFl : Hid (∀ j l, rss[j]? = some l → (rss.take (j + 1)).flatten = (rss.take j).flatten ++ l) := fun j l h => flat_take h
  have HEn : Hid ((rss.take r).flatten = rss.flatten) := by show _ = _; rw [List.take_of_length_le (by rw [Hr.out]; exact Nat.le_refl _)]
  rw [HT.out] at h9
  rw [Hr.out] at hm2 ⊢
  have C := fun W => GrowR_any T W h9
  clear hls hvl
  go_enter Tryd.func38, Tryd.ntmps38
  go_wp2
  go_loopw [3, 5, 11] (fun s _ i wr => ∃ j m : Nat, i = .int .i64 (j : Int) ∧ j ≤ r ∧ s = .int .i64 (m : Int) ∧ Hid ((rss.take j).flatten.length = m) ∧ wr = w) (fun _ _ i _ => (r - intOf i).toNat)
  case atStart => exact ⟨0, 0, rfl, by omega, rfl, (by simp : (rss.take 0).flatten.length = 0), rfl⟩
  case round =>
    obtain ⟨j, m, rfl, hj, rfl, HM, hw⟩ := hrel
    replace hw := hw.symm
    subst hw
    by_cases hlt : j < r
    · have hji : (j : Int) < r := by omega
      have hdec : decide ((j : Int) < r) = true := by simp; omega
      obtain ⟨rs, sa, sc, us, hrj, hcell, _, _⟩ := HC.out j hlt
      have hc1 := hcell _ (Below.refl _ _)
      have hm2' := HLE.out (j + 1)
      rw [HFl.out j rs hrj, List.length_append, HM.out] at hm2'
      have HM2 : Hid ((rss.take (j + 1)).flatten.length = m + rs.length) := by
        show _ = _
        rw [HFl.out j rs hrj, List.length_append, HM.out]
      generalize rs.length = n at *
      have hd0 : decide ((m : Int) + (n : Int) < 0) = false := by simp; omega
      clear hcell hrj
      go_wp2
      go_roundw
      case rel => exact ⟨j + 1, m + n, by go_num, by omega, by go_num, HM2, by first | rfl | trivial⟩
      case measure => simp [intOf]; omega
    · have hdec : decide ((j : Int) < r) = false := by simp; omega
      obtain rfl : r = j := by omega
      have hmT : m = T := by rw [← HM.out, ← HT.out, HEn.out]
      subst hmT
      go_wp2_with (go_at_call 56; refine (C _).mono ?_; rintro e w1 ⟨x, rfl, hown, b1⟩; obtain ⟨sa0, sc0, rfl⟩ := own_slice hown; clear C)
      go_loopw [6, 8, 27] (fun u _ i wr => ∃ (j m2 : Nat) (us : List Value), i = .int .i64 (j : Int) ∧ j ≤ r ∧ Hid ((rss.take j).flatten.length = m2) ∧ Hid (HdR w us (rss.take j).flatten) ∧ wr.ownsRow w.heap.size 22 1 u m2 us ∧ Below w.heap.size w wr) (fun _ _ i _ => (r - intOf i).toNat)
      case atStart => exact ⟨0, 0, [], rfl, by omega, (by simp : (rss.take 0).flatten.length = 0), ⟨rfl, fun i l h => by simp at h⟩, hown, b1⟩
      case round =>
        clear hown b1
        obtain ⟨j, m2, us, rfl, hj2, HM2, HD, hown, b2⟩ := hrel
        obtain ⟨ga, gc, rfl⟩ := own_slice hown
        have hbs := b2.size
        have hm2T := HLE.out j
        rw [HM2.out] at hm2T
        by_cases hlt2 : j < r
        · have hji : (j : Int) < r := by omega
          have hdec2 : decide ((j : Int) < r) = true := by simp; omega
          obtain ⟨rs, sa, sc, us2, hrj, hcell, hd2, hsrc⟩ := HC.out j hlt2
          have hc1 := hcell _ b2
          have hsr := hsrc _ b2
          have hm3 := HLE.out (j + 1)
          rw [HFl.out j rs hrj, List.length_append, HM2.out] at hm3
          have HM3 : Hid ((rss.take (j + 1)).flatten.length = m2 + rs.length) := by
            show _ = _
            rw [HFl.out j rs hrj, List.length_append, HM2.out]
          have HD3 : Hid (HdR w (us ++ us2) (rss.take (j + 1)).flatten) := by rw [HFl.out j rs hrj]; exact HD.out.append hd2
          have hone := hd2.one
          generalize rs.length = n at *
          clear hcell hrj hsrc hd2
          go_wp2_with (first
            | (at_builtin; refine wpList_append_srcC _ rfl _ _ 25 rfl w.heap.size 22 i22 (.slice none 0 0) 24 undR ti tz0 tz1 tz2 rfl (.slice ga m2 gc) m2 us rfl hown (.slice sa n sc) n us2 rfl hsr hone (by (unfold maxLen; omega)) (by omega) hbs ?_; intro v' w4 hown4 hgrow)
            | go_in)
          obtain ⟨va, vc, rfl⟩ := own_slice hown4
          have b4 := b2.grown hgrow hbs (fun k hk => (hown.lt k hk).1)
          clear hown hgrow hsr hone b2
          go_wp2
          go_roundw
          case rel => exact ⟨j + 1, m2 + n, us ++ us2, by go_num, by omega, HM3, HD3, hown4, b4⟩
          case measure => simp [intOf]; omega
        · have hdec2 : decide ((j : Int) < r) = false := by simp; omega
          obtain rfl : r = j := by omega
          rw [HEn.out] at HM2 HD
          have HF : Hid (Rw wr (.slice ga m2 gc) rss.flatten) := hdr_rw (by rw [HM2.out]; exact hown) HD.out b2
          clear hown
          go_wp2
          go_ret
          exact ⟨_, rfl, HF.out, b2⟩
end Go.Proofs.YtgdkfbgehbdkjaaDoor

namespace Go.Proofs.YtgdkfbgehbdkjaaDoor
open Go.RowKit

theorem ls_one {w : World} {x : Value} {rs : List (List Int)} (h : Rw w x rs) (h1 : rs.length ≤ maxLen) (h2 : ∀ r ∈ rs, r.length ≤ maxLen) : LsR (w.alloc (.cells #[x] 25)) (.slice (some ⟨w.heap.size, 0, none⟩) 1 1) [x] [rs] := by
  refine ⟨w.heap.size, 1, rfl, rfl, fun i y ss hy hs => ?_⟩
  have hi : i = 0 := by have := (List.getElem?_eq_some_iff.1 hy).1; simpa using this
  subst hi
  simp only [List.getElem?_cons_zero, Option.some.injEq] at hy hs
  subst hy hs
  exact ⟨by rw [cell_of_row _ _ _ _ _ _ (heap_alloc_new w _)]; rfl, h.below (balloc w _), h1, h2⟩
theorem ls_two {w : World} {x y : Value} {rs ss : List (List Int)} (h : Rw w x rs) (h1 : rs.length ≤ maxLen) (h2 : ∀ r ∈ rs, r.length ≤ maxLen) (k : Rw w y ss) (k1 : ss.length ≤ maxLen) (k2 : ∀ r ∈ ss, r.length ≤ maxLen) : LsR (w.alloc (.cells #[x, y] 25)) (.slice (some ⟨w.heap.size, 0, none⟩) 2 2) [x, y] [rs, ss] := by
  refine ⟨w.heap.size, 2, rfl, rfl, fun i z ts hz ht => ?_⟩
  have hi : i < 2 := by have := (List.getElem?_eq_some_iff.1 hz).1; simpa using this
  have hn := heap_alloc_new w (.cells #[x, y] 25)
  match i, hi with
  | 0, _ =>
    simp only [List.getElem?_cons_zero, Option.some.injEq] at hz ht
    subst hz ht
    exact ⟨by rw [cell_of_row _ _ _ _ _ _ hn]; rfl, h.below (balloc w _), h1, h2⟩
  | 1, _ =>
    simp only [List.getElem?_cons_succ, List.getElem?_cons_zero, Option.some.injEq] at hz ht
    subst hz ht
    exact ⟨by rw [cell_of_row _ _ _ _ _ _ hn]; rfl, k.below (balloc w _), k1, k2⟩
theorem toZ_app (A B : List (List Nat)) : [toZ A, toZ B].flatten = toZ (A ++ B) := by simp [toZ]
theorem toZ_len (A : List (List Nat)) : (toZ A).length = A.length := by simp [toZ]
theorem toZ_max {q n : Nat} {A : List (List Nat)} (h : Rws q n A) (hn : n ≤ 6) : ∀ r ∈ toZ A, r.length ≤ maxLen := fun r hr => by
  obtain ⟨s, hs, rfl⟩ := List.mem_map.1 hr
  rw [List.length_map, (h s hs).len]
  unfold maxLen; omega
theorem len_max {m : Nat} (h : m ≤ 99) : m ≤ maxLen := by unfold maxLen; omega
theorem sl_rw {w : World} {x : Value} {r : List Int} (h : Sl w x r) : Rw (w.alloc (.cells #[x] 22)) (.slice (some ⟨w.heap.size, 0, none⟩) 1 1) [r] := by
  refine ⟨_, 1, rfl, fun i l hl => ?_⟩
  have hi : i = 0 := by have := (List.getElem?_eq_some_iff.1 hl).1; simpa using this
  subst hi
  simp only [List.getElem?_cons_zero, Option.some.injEq] at hl
  subst hl
  exact ⟨w.heap.size, 0, x, rfl, by rw [cell_of_row _ _ _ _ _ _ (heap_alloc_new w _)]; rfl, h.below (balloc w _)⟩
theorem rw_form {w : World} {x : Value} {A : List (List Nat)} (h : Rw w x (toZ A)) : ∃ a c, x = .slice a A.length c := by
  obtain ⟨a, c, e, _⟩ := h
  rw [toZ_len] at e
  exact ⟨a, c, e⟩
theorem rw_formH {w : World} {x : Value} {A : List (List Nat)} (h : Rw w x (toZ A)) : ∃ a m c, x = .slice a m c ∧ Hid (A.length = m) := by
  obtain ⟨a, c, e⟩ := rw_form h
  exact ⟨a, _, c, e, rfl⟩
open Classical in
set_option maxRecDepth 100000 in
set_option maxHeartbeats 16000000 in
theorem has_any (P K n : Nat) (l : List Int) (v u xv : Value) (S : List (List Nat)) (r : List Nat) (w : World) (hF : Fld P K l v w) (hu : Rw w u (toZ S)) (hx : Sl w xv (r.map Int.ofNat)) (hS : Rws (P ^ K) n S) (hr : Vc (P ^ K) n r) (h1 : 1 ≤ n) (hn : n ≤ 6) (hR : S.length ≤ 12) :
    Calls Tryd.prog 30 #[rmV P K v n, u, xv] w fun e w' => e = .returned (.bool (decide (Spn (P ^ K) (adF P K) (muF P K l) n S r))) ∧ Below w.heap.size w w' := by
  have hfq := hF.fqr
  have hSr : Rws (P ^ K) n (S ++ [r]) := fun s hs => (List.mem_append.1 hs).elim (hS s) fun e => by rw [List.mem_singleton.1 e]; exact hr
  have hb0 := balloc w (.cells #[.int .i64 (P : Int), .int .i64 (K : Int), v, .int .i64 (n : Int)] 50)
  have hr0 : RmB (w.alloc (.cells #[.int .i64 (P : Int), .int .i64 (K : Int), v, .int .i64 (n : Int)] 50)) w.heap.size (P : Int) (K : Int) v (n : Int) := heap_alloc_new w _
  have HBas : Hid (∀ (W : World) (y : Value) (Y : List (List Nat)), Below w.heap.size w W → Rw W y (toZ Y) → Rws (P ^ K) n Y → Y.length ≤ 24 → Calls Tryd.prog 27 #[rmV P K v n, y] W fun e w' => BaA (P ^ K) (adF P K) (muF P K l) n Y e w' ∧ Below W.heap.size W w') := fun W y Y b hy hY hl => basis_any P K n l v y Y W (hF.below b) hy hY h1 hn hl
  have HFin : Hid (∀ X Y, BasIs (P ^ K) (adF P K) (muF P K l) n (Spn (P ^ K) (adF P K) (muF P K l) n S) X → BasIs (P ^ K) (adF P K) (muF P K l) n (Spn (P ^ K) (adF P K) (muF P K l) n (S ++ [r])) Y → (((Y.length : Nat) : Int) == ((X.length : Nat) : Int)) = decide (Spn (P ^ K) (adF P K) (muF P K l) n S r)) := fun X Y hX hY => by
    have h := has_is hfq hS hr hX hY
    by_cases e : Spn (P ^ K) (adF P K) (muF P K l) n S r
    · rw [decide_eq_true e, beq_iff_eq, h.2 e]
    · rw [decide_eq_false e, beq_eq_false_iff_ne]
      intro k
      exact e (h.1 (by omega))
  have HRlen : Hid (∀ Y, BasIs (P ^ K) (adF P K) (muF P K l) n (Spn (P ^ K) (adF P K) (muF P K l) n (S ++ [r])) Y → Y.length ≤ 6) := fun Y hY => by have := rref_le hY.rref; omega
  have HRlen2 : Hid (∀ Y, BasIs (P ^ K) (adF P K) (muF P K l) n (Spn (P ^ K) (adF P K) (muF P K l) n S) Y → Y.length ≤ 6) := fun Y hY => by have := rref_le hY.rref; omega
  have HU : Hid (∀ W, Below w.heap.size w W → Rw W u (toZ S)) := fun W b => hu.below b
  have HX : Hid (∀ W, Below w.heap.size w W → Sl W xv (r.map Int.ofNat)) := fun W b => hx.below b
  have HSr : Hid (Rws (P ^ K) n (S ++ [r])) := hSr
  have HS : Hid (Rws (P ^ K) n S) := hS
  have HRz : Hid (toZ [r] = [r.map Int.ofNat]) := rfl
  have HRr : Hid (Rws (P ^ K) n [r]) := fun s hs => by rw [List.mem_singleton.1 hs]; exact hr
  obtain ⟨mu, Hmu⟩ : ∃ mu, Hid (muF P K l = mu) := ⟨_, rfl⟩
  obtain ⟨ad, Had⟩ : ∃ ad, Hid (adF P K = ad) := ⟨_, rfl⟩
  obtain ⟨q, Hq⟩ : ∃ q, Hid (P ^ K = q) := ⟨_, rfl⟩
  rw [Hmu.out, Had.out, Hq.out] at HBas HFin HRlen HRlen2
  rw [Hq.out] at HSr HS HRr
  obtain ⟨Z, HZ⟩ : ∃ Z, Hid (decide (Spn (P ^ K) (adF P K) (muF P K l) n S r) = Z) := ⟨_, rfl⟩
  rw [HZ.out]
  simp only [Hmu.out, Had.out, Hq.out] at HZ
  obtain ⟨fa, fn, fc, rfl⟩ : ∃ fa fn fc, v = .slice fa fn fc := by obtain ⟨a, c, e, _⟩ := hF.sl; exact ⟨a, _, c, e⟩
  obtain ⟨ua, uc, rfl⟩ := rw_form hu
  obtain ⟨xa, xn, xc, rfl⟩ : ∃ a n c, xv = .slice a n c := by obtain ⟨a, c, e, _⟩ := hx; exact ⟨a, _, c, e⟩
  obtain ⟨w0, Hw0⟩ : ∃ w0, Hid (w.alloc (.cells #[.int .i64 (P : Int), .int .i64 (K : Int), .slice fa fn fc, .int .i64 (n : Int)] 50) = w0) := ⟨_, rfl⟩
  rw [Hw0.out] at hb0 hr0
  obtain ⟨m, Hm⟩ : ∃ m, Hid (S.length = m) := ⟨_, rfl⟩
  rw [Hm.out] at HU hR ⊢
  have hS : Hid (∀ W, Below w0.heap.size w0 W → (W.cell? ⟨w.heap.size, 0, none⟩ = some (.int .i64 (P : Int)) ∧ W.cell? ⟨w.heap.size, 1, none⟩ = some (.int .i64 (K : Int)) ∧ W.cell? ⟨w.heap.size, 2, none⟩ = some (.slice fa fn fc) ∧ W.cell? ⟨w.heap.size, 3, none⟩ = some (.int .i64 (n : Int)))) := fun W hW => (hr0.below hW).cells
  have HB0 : Hid (∀ W, Below w0.heap.size w0 W → Below w.heap.size w W) := fun W hW => Below.next hb0 hW
  have p1 : Below w0.heap.size w0 w0 := Below.refl _ _
  clear hF hfq hu hx hSr hr hb0 hr0
  go_enter Tryd.func30, Tryd.ntmps30
  go_wp2_with fail
  rw [Hw0.out]
  refine wp_region_noPanic ?_
  refine wp_region_held_drew (S := fun W => W.cell? ⟨w.heap.size, 0, none⟩ = some (.int .i64 (P : Int)) ∧ W.cell? ⟨w.heap.size, 1, none⟩ = some (.int .i64 (K : Int)) ∧ W.cell? ⟨w.heap.size, 2, none⟩ = some (.slice fa fn fc) ∧ W.cell? ⟨w.heap.size, 3, none⟩ = some (.int .i64 (n : Int))) (by kernel_rfl) (hS.out _ p1.drew) (fun hSx => ?_)
  refine wpAnyH_take (i := 0) (v := .agg #[.int .i64 (P : Int), .int .i64 (K : Int), .slice fa fn fc, .int .i64 (n : Int)]) rfl (by kernel_rfl) (by kernel_rfl) (by kernel_rfl) (fun _ _ _ h => h) (Or.inl ⟨by rfl, fun w' hSw => by (try dsimp only at hSw); obtain ⟨hs0, hs1, hs2, hs3⟩ := hSw; go_simp⟩) hSx ?_
  try simp only [Act.put, List.setIfInBounds_toArray]
  refine wpAnyH_take (i := 1) (v := .slice ua m uc) rfl (by kernel_rfl) (by kernel_rfl) (by kernel_rfl) (fun _ _ _ h => h) (Or.inl ⟨by rfl, fun w' hSw => by (try dsimp only at hSw); obtain ⟨hs0, hs1, hs2, hs3⟩ := hSw; go_simp⟩) hSx ?_
  try simp only [Act.put]
  refine wpAnyH_take (i := 2) (v := .slice xa xn xc) rfl (by kernel_rfl) (by kernel_rfl) (by kernel_rfl) (fun _ _ _ h => h) (Or.inl ⟨by rfl, fun w' hSw => by (try dsimp only at hSw); obtain ⟨hs0, hs1, hs2, hs3⟩ := hSw; go_simp⟩) hSx ?_
  try simp only [Act.put]
  refine wpAnyH_take (i := 8) (v := .agg #[.int .i64 (P : Int), .int .i64 (K : Int), .slice fa fn fc, .int .i64 (n : Int)]) rfl (by kernel_rfl) (by kernel_rfl) (by kernel_rfl) (fun _ _ _ h => h) (Or.inl ⟨by rfl, fun w' hSw => by (try dsimp only at hSw); obtain ⟨hs0, hs1, hs2, hs3⟩ := hSw; go_simp⟩) hSx ?_
  try simp only [Act.put]
  refine wpAnyH_take (i := 9) (v := .slice ua m uc) rfl (by kernel_rfl) (by kernel_rfl) (by kernel_rfl) (fun _ _ _ h => h) (Or.inl ⟨by rfl, fun w' hSw => by (try dsimp only at hSw); obtain ⟨hs0, hs1, hs2, hs3⟩ := hSw; go_simp⟩) hSx ?_
  try simp only [Act.put]
  refine wpAnyH_ready (rs := [3]) (by kernel_rfl) (by simp) ?_
  refine (AllReadyH.cons rfl (fun J hJ => ?_) AllReadyH.nil)
  go_simp
  have q1 : Below w0.heap.size w0 (w0.alloc (.cells #[.slice xa xn xc] 22)).drew := (balloc w0 (.cells #[.slice xa xn xc] 22)).drew
  have f1 : Rw (w0.alloc (.cells #[.slice xa xn xc] 22)).drew (.slice (some ⟨w0.heap.size, 0, none⟩) 1 1) [r.map Int.ofNat] := sl_rw (HX.out w0 (HB0.out w0 p1))
  refine hJ.out _ _ (hS.out _ q1) (fun hSx => ?_)
  clear hJ J
  try simp only [Act.put, List.setIfInBounds_toArray, List.set_cons_zero, List.set_cons_succ]
  revert q1 f1 hSx
  generalize (w0.alloc (.cells #[.slice xa xn xc] 22)).drew = W1
  intro q1 f1 hSx
  refine wpAnyH_ready (rs := [4]) (by kernel_rfl) (by simp) ?_
  refine (AllReadyH.cons rfl (fun J hJ => ?_) AllReadyH.nil)
  go_simp
  have q2 : Below w0.heap.size w0 (W1.alloc (.cells #[.slice ua m uc, .slice (some ⟨w0.heap.size, 0, none⟩) 1 1] 25)) := Below.next q1 (balloc W1 _)
  have f2 := ls_two (HU.out W1 (HB0.out W1 q1)) (by rw [toZ_len, Hm.out]; exact len_max (by omega)) (toZ_max HS.out hn) f1 (len_max (by simp)) (by rw [← HRz.out]; exact toZ_max HRr.out hn)
  refine hJ.out _ _ (hS.out _ q2) (fun hSx => ?_)
  clear hJ J
  try simp only [Act.put, List.setIfInBounds_toArray, List.set_cons_zero, List.set_cons_succ]
  revert q2 f2 hSx
  generalize W1.alloc (.cells #[.slice ua m uc, .slice (some ⟨w0.heap.size, 0, none⟩) 1 1] 25) = W2
  intro q2 f2 hSx
  have C3 := ConcatR_any _ _ _ W2 f2 (by simp) (by rw [← HRz.out, toZ_app, toZ_len, List.length_append, Hm.out]; simp; omega)
  rw [← HRz.out, toZ_app] at C3
  refine wpAnyH_ready (rs := [5]) (by kernel_rfl) (by simp) ?_
  refine (AllReadyH.cons rfl (fun J hJ => ?_) AllReadyH.nil)
  go_simp
  refine C3.mono ?_
  rintro e w3 ⟨y, rfl, hy, b3⟩
  have q3 := Below.next q2 b3
  obtain ⟨ya, ym, yc, rfl, Hym⟩ := rw_formH hy
  go_wp2_with fail
  refine hJ.out _ _ (hS.out _ q3) (fun hSx => ?_)
  clear hJ J
  try simp only [Act.put, List.setIfInBounds_toArray, List.set_cons_zero, List.set_cons_succ]
  have C4 := HBas.out w3 _ (S ++ [r]) (HB0.out w3 q3) hy HSr.out (by rw [List.length_append, Hm.out]; simp; omega)
  refine wpAnyH_ready (rs := [6]) (by kernel_rfl) (by simp) ?_
  refine (AllReadyH.cons rfl (fun J hJ => ?_) AllReadyH.nil)
  go_simp
  refine C4.mono ?_
  rintro e w4 ⟨⟨z, Y, rfl, hY, hz⟩, b4⟩
  have q4 := Below.next q3 b4
  obtain ⟨za, zm, zc, rfl, Hzm⟩ := rw_formH hz
  have hy6 := HRlen.out Y hY
  rw [Hzm.out] at hy6
  go_wp2_with fail
  refine hJ.out _ _ (hS.out _ q4) (fun hSx => ?_)
  clear hJ J
  try simp only [Act.put, List.setIfInBounds_toArray, List.set_cons_zero, List.set_cons_succ]
  refine wpAnyH_take (i := 7) (v := .int .i64 ((zm : Nat) : Int)) rfl (by kernel_rfl) (by kernel_rfl) (by kernel_rfl) (fun _ _ _ h => h) (Or.inl ⟨by rfl, fun w' hSw => by (try dsimp only at hSw); obtain ⟨hs0, hs1, hs2, hs3⟩ := hSw; go_simp⟩) hSx ?_
  try simp only [Act.put, List.setIfInBounds_toArray]
  have C5 := HBas.out w4 _ S (HB0.out w4 q4) (HU.out w4 (HB0.out w4 q4)) HS.out (by rw [Hm.out]; omega)
  refine wpAnyH_ready (rs := [10]) (by kernel_rfl) (by simp) ?_
  refine (AllReadyH.cons rfl (fun J hJ => ?_) AllReadyH.nil)
  go_simp
  refine C5.mono ?_
  rintro e w5 ⟨⟨t, X, rfl, hX, ht⟩, b5⟩
  have q5 := Below.next q4 b5
  obtain ⟨ta, tm, tc, rfl, Htm⟩ := rw_formH ht
  have hx6 := HRlen2.out X hX
  rw [Htm.out] at hx6
  have hfin := HFin.out X Y hX hY
  rw [HZ.out, Hzm.out, Htm.out] at hfin
  go_wp2_with fail
  refine hJ.out _ _ (hS.out _ q5) (fun hSx => ?_)
  clear hJ J
  try simp only [Act.put, List.setIfInBounds_toArray, List.set_cons_zero, List.set_cons_succ]
  refine wpAnyH_take (i := 11) (v := .int .i64 ((tm : Nat) : Int)) rfl (by kernel_rfl) (by kernel_rfl) (by kernel_rfl) (fun _ _ _ h => h) (Or.inl ⟨by rfl, fun w' hSw => by (try dsimp only at hSw); obtain ⟨hs0, hs1, hs2, hs3⟩ := hSw; go_simp⟩) hSx ?_
  try simp only [Act.put, List.setIfInBounds_toArray]
  refine wpAnyH_take (i := 12) (v := .bool Z) rfl (by kernel_rfl) (by kernel_rfl) (by kernel_rfl) (fun _ _ _ h => h) (Or.inl ⟨by rfl, fun w' hSw => by (try dsimp only at hSw); obtain ⟨hs0, hs1, hs2, hs3⟩ := hSw; go_simp⟩) hSx ?_
  try simp only [Act.put]
  refine wpAnyH_ready (rs := [13]) (by kernel_rfl) (by simp) ?_
  refine (AllReadyH.cons rfl (fun J hJ => ?_) AllReadyH.nil)
  go_simp
  refine hJ.out _ _ (hS.out _ q5) (fun hSx => ?_)
  clear hJ J
  try simp only [Act.put, List.setIfInBounds_toArray, List.set_cons_zero, List.set_cons_succ]
  refine wpAnyH_done (by kernel_rfl) ?_ _
  refine NoPanic.normal ?_
  go_wp2
  go_ret
  exact ⟨rfl, HB0.out _ q5⟩
end Go.Proofs.YtgdkfbgehbdkjaaDoor
