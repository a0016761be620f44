/- The walk of the document's IndexOf. -/
import Derived.Test.YtmaplmgecohjbaaG15
import Derived.Test.YtmaplmgecohjbaaH0
import Derived.Maps.AppendAt
import Derived.Test.YtmaplmgecohjbaaH1
import Derived.Test.YtmaplmgecohjbaaH3
import Derived.Test.YtmaplmgecohjbaaE1
/- Rows of numbers in unlike blocks, their headers in a row: one is counted up, one is put in. -/
/- The walk of the document's ListOf, with the room of its rows. -/
namespace Go.Proofs.Ytmaplmgecohjbaa
open Go.RowKit

def CapOk (u : Value) : Prop := ∃ a m c, u = .slice a m c ∧ m ≤ c
def CycC (w : World) (base : Nat) (v : Value) (ls : List (List Nat)) : Prop :=
  ∃ vals : List Value, w.ownsRow base 40 1 v ls.length vals ∧ (∀ (i : Nat) (u : Value) (l : List Nat), vals[i]? = some u → ls[i]? = some l → RowIs w base u l) ∧ ∀ u ∈ vals, CapOk u
theorem CycC.cyc {w : World} {base : Nat} {v : Value} {ls : List (List Nat)} (h : CycC w base v ls) : CycR w base v ls := by
  obtain ⟨vals, h1, h2, _⟩ := h
  exact ⟨vals, h1, h2⟩
theorem CycC.nil (w : World) (base : Nat) : CycC w base (.slice none 0 0) [] := ⟨[], World.ownsRow_nil _ _ _ _, fun i u l h _ => by simp at h, fun u h => by simp at h⟩
theorem CycC.form {w : World} {base : Nat} {v : Value} {ls : List (List Nat)} (h : CycC w base v ls) : ∃ a cap, v = .slice a ls.length cap := h.cyc.form
theorem own_cap {w : World} {base n : Nat} {x : Value} {xs : List Value} (h : w.ownsRow base 3 1 x n xs) (hn : 0 < n) : ∃ a c, x = .slice a n c ∧ n ≤ c := by
  obtain ⟨_, ⟨_, e⟩ | ⟨g, cap, cur, e, _, _, hc, _⟩⟩ := h
  · omega
  · exact ⟨_, cap, e, hc⟩
theorem CycC.more {wa w2 : World} {base : Nat} {v v' u : Value} {ls : List (List Nat)} {l : List Nat} {vals : List Value} (hc : ∀ u ∈ vals, CapOk u) (k : CapOk u) (h1 : wa.ownsRow base 40 1 v ls.length vals) (h2 : ∀ (i : Nat) (u : Value) (l : List Nat), vals[i]? = some u → ls[i]? = some l → RowIs wa base u l) (hu : RowIs wa base u l)
    (hown : w2.ownsRow base 40 1 v' (ls.length + 1) (vals ++ [u])) (hgr : wa.grownBy w2 v.ownBlock) : CycC w2 base v' (ls ++ [l]) := by
  have key : ∀ {u l}, RowIs wa base u l → RowIs w2 base u l := fun h => RowIs.grown h1 hgr h
  have hlen : vals.length = ls.length := by have := h1.1; omega
  refine ⟨vals ++ [u], by rw [List.length_append]; exact hown, fun i u' l' e1 e2 => ?_, fun u' hu' => ?_⟩
  · by_cases hi : i < vals.length
    · rw [List.getElem?_append_left hi] at e1
      rw [List.getElem?_append_left (by omega)] at e2
      exact key (h2 i u' l' e1 e2)
    · rw [List.getElem?_append_right (by omega)] at e1
      rw [List.getElem?_append_right (by omega)] at e2
      have h0 : i - vals.length = 0 := by
        rcases Nat.eq_zero_or_pos (i - vals.length) with h | h
        · exact h
        · rw [List.getElem?_eq_none (by simp; omega)] at e1; simp at e1
      rw [h0] at e1
      rw [show i - ls.length = 0 by omega] at e2
      simp at e1 e2
      subst e1 e2
      exact key hu
  · rcases List.mem_append.1 hu' with h | h
    · exact hc u' h
    · rw [List.mem_singleton.1 h]; exact k
/-- The rows have room. -/
def Caps (w : World) (v : Value) (ls : List (List Nat)) : Prop :=
  ∃ a cap, v = .slice a ls.length cap ∧ ∀ (i : Nat) (l : List Nat), ls[i]? = some l → ∃ b off a' m c, a = some ⟨b, off, none⟩ ∧ w.cell? ⟨b, off + i, none⟩ = some (.slice a' m c) ∧ m ≤ c
theorem CycC.caps {w : World} {base : Nat} {v : Value} {ls : List (List Nat)} (h : CycC w base v ls) : Caps w v ls := by
  obtain ⟨vals, h1, h2, hc⟩ := h
  obtain ⟨h3, ⟨rfl, h4⟩ | ⟨g, cap, cur, rfl, h6, h7, h8, h9, h10, ht⟩⟩ := h1
  · refine ⟨none, 0, by rw [h4], fun i l hl => ?_⟩
    rw [List.length_eq_zero_iff.1 h4] at hl; simp at hl
  · refine ⟨_, cap, rfl, fun i l hl => ?_⟩
    have hi : i < ls.length := by
      rcases Nat.lt_or_ge i ls.length with h | h
      · exact h
      · rw [List.getElem?_eq_none h] at hl; simp at hl
    have e : (cur.toList.take (ls.length * 1))[i]? = vals[i]? := by rw [ht]
    rw [List.getElem?_take, if_pos (by omega)] at e
    obtain ⟨u, hu⟩ : ∃ u, vals[i]? = some u := ⟨vals[i]'(by omega), by simp⟩
    obtain ⟨a', m, c, rfl, hmc⟩ := hc u (List.mem_of_getElem? hu)
    exact ⟨g, 0, a', m, c, rfl, by rw [cell_of_row w g _ _ _ _ h7, Nat.zero_add, ← Array.getElem?_toList, e, hu], hmc⟩
theorem Caps.below {w w' : World} {v : Value} {ls : List (List Nat)} (h : Caps w v ls) (hb : Below w.heap.size w w') : Caps w' v ls := by
  obtain ⟨a, cap, rfl, h⟩ := h
  refine ⟨a, cap, rfl, fun i l hl => ?_⟩
  obtain ⟨b, off, a', m, c, e, hc, hs⟩ := h i l hl
  exact ⟨b, off, a', m, c, e, (hb.cell (p := ⟨b, off + i, none⟩) (block_lt_of_cell hc)).trans hc, hs⟩

set_option maxRecDepth 100000 in
set_option maxHeartbeats 4000000 in
theorem ListOf_cap (n g : Nat) (F : Nat → Bool) (w : World) (hn : n ≤ 7) (h1 : 1 ≤ n) (hO : OwnB w g (fac n) F) :
    Calls Try.prog 17 #[.int .i64 (n : Int), .slice (some ⟨g, 0, none⟩) (fac n) (fac n)] w fun e w' => (∃ v, e = .returned v ∧ CycC w' w.heap.size v (listF n F (fac n))) ∧ Below w.heap.size w w' := by
  obtain ⟨i23, hi, hz0, hz1, hz2⟩ := info23
  have HI2 : Hid (Try.prog.info? 40 = some i23 ∧ i23.zero = some (.slice none 0 0) ∧ i23.size = 1 ∧ i23.bytes = 24) := ⟨hi, hz0, hz1, hz2⟩
  clear hi hz0 hz1 hz2
  have hfb : fac n ≤ 5040 := by have h := fac_mono hn; have h3 : fac 7 = 5040 := (by decide); omega
  have C := fun k W (h : k < fac n) => PermOfRank_own n k W (by omega) h
  obtain ⟨z, Hz⟩ : ∃ z, Hid (fac n = z) := ⟨_, rfl⟩
  rw [Hz.out] at C hfb hO ⊢
  have hgl := hO.lt
  go_enter Try.func17, Try.ntmps17
  go_wp2
  go_loopw [5, 6] (fun lv i wr => ∃ (t : Nat), i = .int .i64 t ∧ t ≤ z ∧ CycC wr w.heap.size lv (listF n F t) ∧ Below w.heap.size w wr) (fun _ i _ => (z - intOf i).toNat)
  case atStart => exact ⟨0, rfl, by omega, CycC.nil _ _, Below.refl _ _⟩
  case round =>
    obtain ⟨t, rfl, ht, hcy, hB⟩ := hrel
    have hlen := listF_len n F t
    obtain ⟨r, Hr⟩ : ∃ r, Hid ((listF n F t).length = r) := ⟨_, rfl⟩
    obtain ⟨la, lc, hle⟩ := hcy.form
    rw [Hr.out] at hle hlen
    subst hle
    by_cases hlt : t < z
    · have hti : (t : Int) < z := by omega
      have ht0 : (0 : Int) ≤ (t : Int) := by omega
      have hdec : decide ((t : Int) < z) = true := by simp; omega
      have hO' : OwnB wr g z F := hO.block (hB.block g hgl)
      have hct := hO'.cell t hlt
      have hft := hO'.frozen t
      have hsz := hB.size
      have D := C t wr hlt
      clear hO'
      cases hF : F t with
      | true =>
        rw [hF] at hct
        have HL : Hid (listF n F (t + 1) = listF n F t ++ [unr n t]) := listF_yes hF
        obtain ⟨L, HLL⟩ : ∃ L, Hid (listF n F t = L) := ⟨_, rfl⟩
        rw [HLL.out] at hcy HL Hr
        have hul : (unr n t).length = n := unrL_len _ _ _
        change Calls _ _ _ _ fun e w' => ∃ x, e = _ ∧ w'.ownsRow wr.heap.size 3 1 x n (vl (unr n t)) ∧ Below wr.heap.size wr w' at D
        obtain ⟨y, Hy⟩ : ∃ y, Hid (unr n t = y) := ⟨_, rfl⟩
        rw [Hy.out] at HL hul D
        have HYL : Hid (y.length = n) := hul
        obtain ⟨vals, hv1, hv2, hcap⟩ := hcy
        rw [Hr.out] at hv1
        have HV2 : Hid (∀ (i : Nat) (u : Value) (l : List Nat), vals[i]? = some u → L[i]? = some l → RowIs wr w.heap.size u l) := hv2
        clear hv2 hul
        go_wp2_with (first
          | (go_at_call 41; refine D.mono ?_; rintro e w4 ⟨x, rfl, hown4, b4⟩; have hrow4 : RowIs w4 w.heap.size x y := (row_of hown4 HYL.out (by omega)).base hsz; obtain ⟨ya, yc, hye, hyc⟩ : ∃ a c, x = .slice a n c ∧ n ≤ c := (own_cap hown4 (by omega)); subst hye; replace hv1 := orow_below hv1 b4; have HV3 : Hid (∀ (i : Nat) (u : Value) (l : List Nat), vals[i]? = some u → L[i]? = some l → RowIs w4 w.heap.size u l) := (fun i u l h1 h2 => (HV2.out i u l h1 h2).below b4); have HR4 : Hid (RowIs w4 w.heap.size (.slice ya n yc) y) := hrow4; have hB4 := Below.next hB b4; clear hown4 hrow4 b4 D)
          | (at_builtin; refine wpList_append_lies _ rfl _ _ 28 rfl w.heap.size 40 i23 (.slice none 0 0) 1 24 und22' HI2.out.1 HI2.out.2.1 HI2.out.2.2.1 HI2.out.2.2.2 rfl (by decide) _ r _ rfl (hv1.alloc _) ⟨w4.heap.size, 0, none⟩ 1 1 [.slice ya n yc] rfl rfl ?c1 ?c2 (by omega) ?c3 ?c4 ?c5 (w4.heap.size + 1) (by simp) ?_))
        case c1 => exact cell_one_new w4 (.slice ya n yc) 40
        case c2 => intro u hu; simp at hu; subst hu; rfl
        case c3 => unfold maxLen; omega
        case c4 => omega
        case c5 => have := hB4.size; simp; omega
        intro g6 cap6 w6 hown6 hgrow6 _ hlt6
        have hb6 : Below w.heap.size w w6 := (hB4.alloc hB4.size _).grown hgrow6 (by have := hB4.size; simp; omega) (fun g hg => by have := (hv1.lt g hg).1; omega)
        have hal : ∀ {u l}, RowIs w4 w.heap.size u l → RowIs (w4.alloc (.cells #[.slice ya n yc] 40)) w.heap.size u l := fun h => h.below (balloc _ _)
        have hcy6 : CycC w6 w.heap.size (.slice (some ⟨g6, 0, none⟩) (r + 1) cap6) (L ++ [y]) := CycC.more hcap (k := ⟨ya, n, yc, rfl, hyc⟩) (wa := w4.alloc (.cells #[.slice ya n yc] 40)) (vals := vals) (by rw [Hr.out]; exact hv1.alloc _) (fun i u l h1 h2 => hal (HV3.out i u l h1 h2)) (hal HR4.out) (by rw [Hr.out]; exact hown6) hgrow6
        clear hown6 hgrow6 hv1 HV2 HV3 HR4
        go_wp2
        go_roundw
        case rel => exact ⟨t + 1, by go_num, by omega, by rw [HL.out]; exact hcy6, hb6⟩
        case measure => simp [intOf]; omega
      | false =>
        rw [hF] at hct
        have HL : Hid (listF n F (t + 1) = listF n F t) := listF_no hF
        go_wp2
        go_roundw
        case rel => exact ⟨t + 1, by go_num, by omega, by rw [HL.out]; exact hcy, hB⟩
        case measure => simp [intOf]; omega
    · obtain rfl : t = z := by omega
      have hkd : decide ((t : Int) < (t : Int)) = false := by simp
      go_wp2
      go_ret
      exact ⟨⟨_, rfl, hcy⟩, hB⟩

end Go.Proofs.Ytmaplmgecohjbaa

namespace Go.Proofs.Ytmaplmgecohjbaa
open Go.RowKit

structure IxO (w : World) (base : Nat) (v : Value) (us : List Value) (rs : List (List Nat)) : Prop where
  own : w.ownsRow base 40 1 v rs.length us
  row : ∀ (i : Nat) (u : Value) (l : List Nat), us[i]? = some u → rs[i]? = some l → RowIs w base u l
  cap : ∀ u ∈ us, CapOk u
  nd : (us.map Value.ownBlock).Nodup
theorem IxO.nil (w : World) (base : Nat) : IxO w base (.slice none 0 0) [] [] := ⟨World.ownsRow_nil _ _ _ _, fun i u l h _ => by simp at h, fun u h => by simp at h, List.Pairwise.nil⟩
theorem IxO.cyc {w : World} {base : Nat} {v : Value} {us : List Value} {rs : List (List Nat)} (h : IxO w base v us rs) : CycR w base v rs := ⟨us, h.own, h.row⟩
theorem IxO.len {w : World} {base : Nat} {v : Value} {us : List Value} {rs : List (List Nat)} (h : IxO w base v us rs) : us.length = rs.length := by have := h.own.1; omega
theorem IxO.below {w w' : World} {base : Nat} {v : Value} {us : List Value} {rs : List (List Nat)} (h : IxO w base v us rs) (hb : Below w.heap.size w w') : IxO w' base v us rs :=
  ⟨orow_below h.own hb, fun i u l h1 h2 => (h.row i u l h1 h2).below hb, h.cap, h.nd⟩
/-- The row at a place. -/
theorem IxO.at {w : World} {base : Nat} {v : Value} {us : List Value} {rs : List (List Nat)} (h : IxO w base v us rs) {k : Nat} {l : List Nat} (hk : rs[k]? = some l) :
    ∃ g c b cb, v = .slice (some ⟨g, 0, none⟩) rs.length c ∧ rs.length ≤ c ∧ g < w.heap.size ∧ us[k]? = some (.slice (some ⟨b, 0, none⟩) l.length cb) ∧ l.length ≤ cb ∧ base ≤ b ∧ w.cell? ⟨g, k, none⟩ = some (.slice (some ⟨b, 0, none⟩) l.length cb) ∧ Own w b l.length (fun j => (l.getD j 0 : Int)) := by
  have hk1 := (List.getElem?_eq_some_iff.1 hk).1
  have hl := h.len
  obtain ⟨u, hu⟩ : ∃ u, us[k]? = some u := ⟨us[k]'(by omega), by simp⟩
  obtain ⟨b, cb, rfl, hb, hO⟩ := h.row k u l hu hk
  obtain ⟨a', m', c', e, hc⟩ := h.cap _ (List.mem_of_getElem? hu)
  simp only [Value.slice.injEq] at e
  obtain ⟨_, rfl, rfl⟩ := e
  obtain ⟨_, ⟨_, h4⟩ | ⟨g, c, cur, rfl, hg, h7, h8, _⟩⟩ := id h.own
  · omega
  · refine ⟨g, c, b, cb, rfl, h8, (Array.getElem?_eq_some_iff.1 h7).1, hu, hc, hb, ?_, hO⟩
    rw [h.own.cellAt k (by omega), hu]
/-- The slice's form. -/
theorem IxO.form {w : World} {base : Nat} {v : Value} {us : List Value} {rs : List (List Nat)} (h : IxO w base v us rs) : (v = .slice none 0 0 ∧ rs = []) ∨ ∃ g c, v = .slice (some ⟨g, 0, none⟩) rs.length c ∧ rs.length ≤ c ∧ g < w.heap.size ∧ ∀ (j : Nat) (u : Value), us[j]? = some u → w.cell? ⟨g, j, none⟩ = some u := by
  obtain ⟨_, ⟨h3, h4⟩ | ⟨g, c, cur, rfl, hg, h7, h8, _⟩⟩ := id h.own
  · exact .inl ⟨h3, List.length_eq_zero_iff.1 h4⟩
  · refine .inr ⟨g, c, rfl, h8, (Array.getElem?_eq_some_iff.1 h7).1, fun j u hu => ?_⟩
    have := (List.getElem?_eq_some_iff.1 hu).1
    have := h.len
    rw [h.own.cellAt j (by omega), hu]
theorem orow_other40 {w : World} {base n b : Nat} {v : Value} {xs : List Value} (h : w.ownsRow base 40 1 v n xs) {m : Nat} {f : Nat → Int} (hO : Own w b m f) (j : Nat) (u : Value) : (w.setCell ⟨b, j, none⟩ u).ownsRow base 40 1 v n xs := by
  obtain ⟨h1, h2 | ⟨g, cap, cur, h3, h4, h5, h6⟩⟩ := h
  · exact ⟨h1, .inl h2⟩
  · refine ⟨h1, .inr ⟨g, cap, cur, h3, h4, (heap_setCell_other w _ g u fun e => ?_).trans h5, h6⟩⟩
    have e : g = b := e
    subst e
    obtain ⟨cur', k, _⟩ := hO
    rw [h5] at k
    simp at k
/-- One is counted up. -/
theorem IxO.bump {w : World} {base : Nat} {v : Value} {us : List Value} {rs : List (List Nat)} (h : IxO w base v us rs) {k c b cb m : Nat} {t : List Nat} (hk : rs[k]? = some (c :: t)) (hu : us[k]? = some (.slice (some ⟨b, 0, none⟩) m cb)) :
    IxO (w.setCell ⟨b, 0, none⟩ (.int .i64 ((c : Int) + 1))) base v us (rs.set k ((c + 1) :: t)) := by
  obtain ⟨b', cb', e, hb, hO⟩ := h.row k _ _ hu hk
  simp only [Value.slice.injEq, Option.some.injEq, Addr.mk.injEq, and_true] at e
  obtain ⟨rfl, rfl, rfl⟩ := e
  refine ⟨by rw [List.length_set]; exact orow_other40 h.own hO _ _, fun i u l h1 h2 => ?_, h.cap, h.nd⟩
  by_cases e : k = i
  · subst e
    have hk1 := (List.getElem?_eq_some_iff.1 hk).1
    rw [List.getElem?_set_self hk1, Option.some.injEq] at h2
    rw [hu, Option.some.injEq] at h1
    subst h1 h2
    refine ⟨b, cb, rfl, hb, (hO.set 0 _).congr fun j hj => ?_⟩
    unfold upd
    cases j with
    | zero => simp
    | succ j => simp
  · rw [List.getElem?_set_ne e] at h2
    obtain ⟨b2, c2, rfl, hb2, hO2⟩ := h.row i u l h1 h2
    refine ⟨b2, c2, rfl, hb2, ?_⟩
    obtain ⟨cur, k1, k2⟩ := hO2
    refine ⟨cur, (heap_setCell_other w _ b2 _ fun eb => ?_).trans k1, k2⟩
    have eb : b2 = b := eb
    subst eb
    have h3 : (us.map Value.ownBlock)[k]? = some (some b2) := by rw [List.getElem?_map, hu]; rfl
    have h4 : (us.map Value.ownBlock)[i]? = some (some b2) := by rw [List.getElem?_map, h1]; rfl
    obtain ⟨h5, h6⟩ := List.getElem?_eq_some_iff.1 h3
    obtain ⟨h7, h8⟩ := List.getElem?_eq_some_iff.1 h4
    rcases Nat.lt_or_gt_of_ne e with h' | h'
    · exact List.pairwise_iff_getElem.1 h.nd k i h5 h7 h' (h6.trans h8.symm)
    · exact List.pairwise_iff_getElem.1 h.nd i k h7 h5 h' (h8.trans h6.symm)
/-- One is put in. -/
theorem IxO.ins {w w' : World} {base : Nat} {v v' u : Value} {us : List Value} {rs : List (List Nat)} {l : List Nat} (h : IxO w base v us rs) (k : Nat) (hk : k ≤ rs.length) (hu : RowIs w base u l) (hc : CapOk u) (hne : u.ownBlock ∉ us.map Value.ownBlock)
    (hb : Below w.heap.size w w') (hv : w'.ownsRow base 40 1 v' (rs.length + 1) (us.take k ++ u :: us.drop k)) : IxO w' base v' (us.take k ++ u :: us.drop k) (rs.take k ++ l :: rs.drop k) := by
  have hl := h.len
  refine ⟨?_, fun i u' l' h1 h2 => ?_, fun u' hu' => ?_, ?_⟩
  · rw [List.length_append, List.length_cons, List.length_take, List.length_drop, show min k rs.length + (rs.length - k + 1) = rs.length + 1 by omega]
    exact hv
  · by_cases hi : i < k
    · rw [List.getElem?_append_left (by rw [List.length_take]; omega), List.getElem?_take, if_pos hi] at h1 h2
      exact (h.row i u' l' h1 h2).below hb
    · rw [List.getElem?_append_right (by rw [List.length_take]; omega), List.length_take, show i - min k us.length = i - k by omega] at h1
      rw [List.getElem?_append_right (by rw [List.length_take]; omega), List.length_take, show i - min k rs.length = i - k by omega] at h2
      cases e : i - k with
      | zero =>
        rw [e, List.getElem?_cons_zero, Option.some.injEq] at h1 h2
        subst h1 h2
        exact hu.below hb
      | succ j =>
        rw [e, List.getElem?_cons_succ, List.getElem?_drop] at h1 h2
        exact (h.row _ u' l' h1 h2).below hb
  · rcases List.mem_append.1 hu' with e | e
    · exact h.cap u' (List.mem_of_mem_take e)
    · rcases List.mem_cons.1 e with e | e
      · subst e; exact hc
      · exact h.cap u' (List.mem_of_mem_drop e)
  · have hd := h.nd
    rw [← List.take_append_drop k us, List.map_append] at hd
    obtain ⟨d1, d2, d3⟩ := List.pairwise_append.1 hd
    rw [List.map_append, List.map_cons]
    refine List.pairwise_append.2 ⟨d1, List.pairwise_cons.2 ⟨fun y hy e => hne ?_, d2⟩, fun a ha b hb' e => ?_⟩
    · subst e
      obtain ⟨z, hz, e⟩ := List.mem_map.1 hy
      exact List.mem_map.2 ⟨z, List.mem_of_mem_drop hz, e⟩
    · subst e
      rcases List.mem_cons.1 hb' with e | e
      · subst e
        obtain ⟨z, hz, e⟩ := List.mem_map.1 ha
        exact hne (List.mem_map.2 ⟨z, List.mem_of_mem_take hz, e⟩)
      · exact d3 a ha a e rfl
/-- The blocks are old ones. -/
theorem IxO.lt {w : World} {base : Nat} {v : Value} {us : List Value} {rs : List (List Nat)} (h : IxO w base v us rs) {b : Nat} (hb : w.heap.size ≤ b) : some b ∉ us.map Value.ownBlock := fun hm => by
  obtain ⟨u, hu, e⟩ := List.mem_map.1 hm
  obtain ⟨i, hi⟩ := List.getElem?_of_mem hu
  have h1 := (List.getElem?_eq_some_iff.1 hi).1
  have h2 := h.len
  obtain ⟨g, c, rfl, _, hO⟩ := h.row i u (rs[i]'(by omega)) hi (by simp)
  have := hO.lt
  simp [Value.ownBlock] at e
  omega

/-- What is appended: nothing, or so many cells. -/
def SrcR (w : World) (x : Value) (m : Nat) (news : List Value) : Prop := (x = .slice none 0 0 ∧ m = 0 ∧ news = []) ∨ ∃ ad c, x = .slice (some ad) m c ∧ news.length = m ∧ ∀ (j : Nat) (u : Value), news[j]? = some u → w.cell? (ad.add j) = some u

theorem wpList_append_src {P : Program} (w : World) {ops : Array Oper} {rest : List Oper} {o : Oper} {a : Act} {Q : Exit → Act → World → Prop} (hgd : o.guard = none) (s x : Operand) (t : TypeId)
    (ho : o.op = .call { callee := .builtin .append, args := #[s, x], argTypes := #[t, t] })
    (base : Nat) (e : TypeId) (i : TypeInfo) (z : Value) (bytes : Nat) (ht : P.underlying t = some (.slice e)) (hi : P.info? e = some i) (hz : i.zero = some z)
    (hsize : i.size = 1) (hby : i.bytes = bytes) (hzs : z.cells.size = 1)
    (v : Value) (n : Nat) (xs : List Value) (hs : a.eval s = v) (hown : w.ownsRow base e 1 v n xs)
    (vx : Value) (m : Nat) (news : List Value) (hx : a.eval x = vx) (hsrc : SrcR w vx m news) (h1 : ∀ u ∈ news, u.oneCell' = true)
    (h63 : n + m ≤ maxLen) (hbytes : (n + m) * bytes ≤ 140737488355328) (hbase : base ≤ w.heap.size)
    (h : ∀ v' w', w'.ownsRow base e 1 v' (n + m) (xs ++ news) → w.grownBy w' v.ownBlock → (v'.ownBlock = v.ownBlock ∨ v'.ownBlock = some w.heap.size) → wpList P ops Q rest (a.put o.dst v') w') :
    wpList P ops Q (o :: rest) a w := by
  rcases hsrc with ⟨rfl, rfl, rfl⟩ | ⟨ad, c, rfl, hl, hnews⟩
  · refine wpList_plain hgd fun K hK => ?_
    have hr := run_append_owned_none (P := P) w base t o.type e i 1 ht hi v n xs hown
    unfold Oper.wp execOp
    simp only [ho, resolve, invoke, builtin, Sem.run_bind, Sem.run_pure, Result.andThen_ok, List.map_toArray, List.map_cons, List.map_nil, hs, hx, hr]
    exact hK _ _ (h v w (by rw [List.append_nil]; exact hown) ⟨rfl, rfl, rfl, Nat.le_refl _, fun _ _ _ => rfl⟩ (.inl rfl))
  · exact wpList_append_own_at w hgd s x t ho base e i z 1 bytes ht hi hz hsize hby hzs (by decide) v n xs hs hown ad m c news hx (by rw [hl, Nat.mul_one]) hnews h1 h63 hbytes hbase fun v' w' h2 h3 _ h5 => h v' w' h2 h3 h5

end Go.Proofs.Ytmaplmgecohjbaa

namespace Go.Proofs.Ytmaplmgecohjbaa
open Go.RowKit

theorem lenC_div {n : Nat} {a : List Nat} (ha : IsP n a) (hn : n ≤ 7) {j : Nat} (h1 : 1 ≤ j) (h2 : j ≤ n) : lenC n (fnL a) j / j = (kt n a).getD (j - 1) 0 := by
  have P : Pm n (fnL a) := ha.pm
  unfold lenC kt
  rw [P.lens_count j, Nat.mul_div_cancel_left _ (by omega), take_at, if_pos (by omega), kd_at (by omega), show j - 1 + 1 = j by omega]
theorem vl_len (l : List Nat) : (vl l).length = l.length := by simp [vl]
theorem RowIs.sl {w : World} {base : Nat} {u : Value} {l : List Nat} (h : RowIs w base u l) : Sl w u (l.map Int.ofNat) := by
  obtain ⟨g, cap, rfl, _, hO⟩ := h
  have h := hO.sl cap
  have e3 : (List.range l.length).map (fun j => (l.getD j 0 : Int)) = l.map Int.ofNat := by
    refine List.ext_getElem (by simp) fun j h1 h2 => ?_
    have hj : j < l.length := by simpa using h2
    simp [hj]
  rw [e3] at h
  exact h
theorem src_lo {w : World} {base g q oc : Nat} {us : List Value} {rs : List (List Nat)} (h : IxO w base (.slice (some ⟨g, 0, none⟩) q oc) us rs) {j c : Nat} (hj : j ≤ rs.length) : SrcR w (.slice (some ⟨g, 0, none⟩) j c) j (us.take j) := by
  refine .inr ⟨_, _, rfl, by rw [List.length_take, h.len]; omega, fun i u hu => ?_⟩
  rw [List.getElem?_take] at hu
  by_cases hi : i < j
  · rw [if_pos hi] at hu
    rcases h.form with ⟨e, _⟩ | ⟨g', c', e, _, _, hc⟩
    · simp at e
    · simp only [Value.slice.injEq, Option.some.injEq, Addr.mk.injEq, and_true] at e
      obtain ⟨rfl, _, _⟩ := e
      rw [Addr.add_mid, Nat.zero_add]
      exact hc i u hu
  · rw [if_neg hi] at hu; simp at hu
theorem src_zero {w : World} {us : List Value} {j m m' c : Nat} {a : Addr} (h : us.length ≤ j) (hm : m = 0) (hm' : m' = 0) : SrcR w (.slice (some a) m c) m' (us.drop j) := by
  subst hm hm'
  rw [List.drop_of_length_le h]
  exact .inr ⟨_, _, rfl, rfl, fun i u h => by simp at h⟩
theorem src_hi {w : World} {base g q oc : Nat} {us : List Value} {rs : List (List Nat)} (h : IxO w base (.slice (some ⟨g, 0, none⟩) q oc) us rs) {j c m : Nat} (hm : m = rs.length - j) : SrcR w (.slice (some ⟨g, j, none⟩) m c) m (us.drop j) := by
  refine .inr ⟨_, _, rfl, by rw [List.length_drop, h.len, hm], fun i u hu => ?_⟩
  rw [List.getElem?_drop] at hu
  rcases h.form with ⟨e, _⟩ | ⟨g', c', e, _, _, hc⟩
  · simp at e
  · simp only [Value.slice.injEq, Option.some.injEq, Addr.mk.injEq, and_true] at e
    obtain ⟨rfl, _, _⟩ := e
    rw [Addr.add_mid]
    exact hc _ u hu
theorem sl_tail {w : World} {base b n c x : Nat} {l : List Nat} (h : RowIs w base (.slice (some ⟨b, 0, none⟩) (n + 1) c) (x :: l)) (hl : l.length = n) : Sl w (.slice (some ⟨b, 1, none⟩) n (c - 1)) (l.map Int.ofNat) := by
  obtain ⟨g, cap, e, _, hO⟩ := h
  simp only [Value.slice.injEq, Option.some.injEq, Addr.mk.injEq, and_true] at e
  obtain ⟨rfl, _, _⟩ := e
  refine ⟨_, _, by rw [List.length_map, hl], fun j hj => ⟨b, 1, rfl, ?_⟩⟩
  rw [List.length_map] at hj
  rw [hO.cell (1 + j) (by rw [List.length_cons]; omega), getD_ofNat, Nat.add_comm 1 j, List.getD_cons_succ]
theorem map_inj {a b : List Nat} (h : a.map Int.ofNat = b.map Int.ofNat) : a = b := (List.map_inj_right fun _ _ h => Int.ofNat.inj h).1 h
theorem orow_slice {w : World} {base n : Nat} {e : TypeId} {size : Nat} {v : Value} {xs : List Value} (h : w.ownsRow base e size v n xs) : ∃ a l c, v = .slice a l c := by
  obtain ⟨_, ⟨rfl, _⟩ | ⟨g, cap, cur, rfl, _⟩⟩ := h
  · exact ⟨_, _, _, rfl⟩
  · exact ⟨_, _, _, rfl⟩
theorem orow_base {w : World} {b b' n : Nat} {e : TypeId} {size : Nat} {v : Value} {xs : List Value} (h : w.ownsRow b e size v n xs) (hb : b' ≤ b) : w.ownsRow b' e size v n xs := by
  obtain ⟨h1, h2 | ⟨g, cap, cur, h3, h4, h5⟩⟩ := h
  · exact ⟨h1, .inl h2⟩
  · exact ⟨h1, .inr ⟨g, cap, cur, h3, by omega, h5⟩⟩

set_option maxRecDepth 100000 in
set_option maxHeartbeats 8000000 in
theorem IndexOf_list (n : Nat) (E : List (List Nat)) (lv : Value) (w : World) (hn1 : 1 ≤ n) (hn7 : n ≤ 7) (hE : ∀ a ∈ E, IsP n a) (hlen : E.length ≤ 5040) (hv : SlSl w lv E) :
    Calls Try.prog 18 #[.int .i64 (n : Int), lv] w fun e w' => (∃ x T, e = .returned x ∧ TIs n (E.map (kt n)) T ∧ SlSl w' x (rowsT (E.map (kt n)) T)) ∧ Below w.heap.size w w' := by
  obtain ⟨i3, ti, tz0, tz1, tz2⟩ := info3
  obtain ⟨i22, hi', hz0', hz1', hz2'⟩ := info22
  obtain ⟨r, Hr⟩ : ∃ r, Hid (E.length = r) := ⟨_, rfl⟩
  obtain ⟨a0, cap0, hlv⟩ : ∃ a c, lv = .slice a E.length c := by obtain ⟨a, c, e, _⟩ := hv; exact ⟨a, c, e⟩
  subst hlv
  rw [Hr.out] at hlen hv ⊢
  have HV : Hid (SlSl w (.slice a0 r cap0) E) := hv
  have HE : Hid (∀ a ∈ E, IsP n a) := hE
  clear hv hE
  go_enter Try.func18, Try.ntmps18
  go_wp2
  go_loopw [5, 6] (fun ov i wr => ∃ (t : Nat) (T : List (List Nat)) (us : List Value), i = .int .i64 t ∧ t ≤ r ∧ Hid (TIs n ((E.take t).map (kt n)) T) ∧ Hid (IxO wr w.heap.size ov us (rowsT ((E.take t).map (kt n)) T)) ∧ Below w.heap.size w wr ∧ T.length ≤ t) (fun _ i _ => (r - intOf i).toNat)
  case atStart => exact ⟨0, [], [], rfl, by omega, (by rw [List.take_zero]; exact TIs.nil n : TIs n ((E.take 0).map (kt n)) []), (IxO.nil _ _ : IxO _ _ _ [] []), Below.refl _ _, by simp⟩
  case round =>
    obtain ⟨t, T, us, rfl, ht, HT, HX, hB, hTt⟩ := hrel
    obtain ⟨q, Hq⟩ : ∃ q, Hid (T.length = q) := ⟨_, rfl⟩
    rw [Hq.out] at hTt
    obtain ⟨oa, oc, hoe, HOC⟩ : ∃ oa oc, u5 = .slice oa q oc ∧ Hid (q ≤ oc) := by
      have h1 := HX.out.form
      rw [rowsT_len, Hq.out] at h1
      rcases h1 with ⟨rfl, h2⟩ | ⟨g, c, h2, h3, _⟩
      · have : q = 0 := by rw [← Hq.out, ← rowsT_len, h2]; rfl
        exact ⟨none, 0, by rw [this], (by omega : q ≤ 0)⟩
      · exact ⟨_, c, h2, h3⟩
    subst hoe
    by_cases hlt : t < r
    · have hti : (t : Int) < r := by omega
      have ht0 : (0 : Int) ≤ (t : Int) := by omega
      have hdec : decide ((t : Int) < r) = true := by simp; omega
      obtain ⟨a, ha⟩ : ∃ a, E[t]? = some a := ⟨E[t]'(by have := Hr.out; omega), by simp⟩
      have haP := HE.out a (List.mem_of_getElem? ha)
      obtain ⟨lb, lo, lu, rfl, hlbw, hcl, hsl⟩ := HV.out.at ha
      have hcl2 := (hB.cell (p := ⟨lb, lo + t, none⟩) hlbw).trans hcl
      have hsl2 := hsl.below hB
      rw [← pl_map haP.len] at hsl2
      have C42 := Lengths_any n (fnL a) lu wr (by omega) hsl2 haP.pm
      obtain ⟨ua, un, uc, hue⟩ : ∃ a m c, lu = .slice a m c := by obtain ⟨a, c, e, _⟩ := hsl; exact ⟨a, _, c, e⟩
      subst hue
      have HTK : Hid ((E.take (t + 1)).map (kt n) = (E.take t).map (kt n) ++ [kt n a]) := by show _ = _; rw [List.take_add_one, ha, List.map_append]; rfl
      obtain ⟨y, Hy⟩ : ∃ y, Hid (kt n a = y) := ⟨_, rfl⟩
      have HYL : Hid (y.length = n) := by show _ = _; rw [← Hy.out]; exact kt_len hn7 a
      have HDIV : Hid (∀ j, 1 ≤ j → j ≤ n → lenC n (fnL a) j / j = y.getD (j - 1) 0 ∧ lenC n (fnL a) j ≤ n) := fun j h1 h2 => ⟨by rw [← Hy.out]; exact lenC_div haP hn7 h1 h2, lenC_le _ _ _⟩
      rw [Hy.out] at HTK
      clear hcl hsl hsl2 ha haP
      go_wp2_with (go_at_call 42; refine C42.mono ?_; rintro e w1 ⟨x, rfl, hx, b1⟩; have HX1 : Hid (IxO w1 w.heap.size (.slice oa q oc) us (rowsT ((E.take t).map (kt n)) T)) := HX.out.below b1; have hB1 := Below.next hB b1; obtain ⟨xb, xo, xc, hxe, hxw, hxc⟩ := hx.form (pl_len _ _) (by omega); subst hxe; have HXC : Hid (∀ j, j < n + 1 → w1.cell? ⟨xb, xo + j, none⟩ = some (.int .i64 ((pl (n + 1) (lenC n (fnL a))).getD j 0))) := hxc; clear hx hxc b1 C42 HX hB)
      have hs1 := hB1.size
      go_loopw [8, 9] (fun rv k w2 => ∃ j : Nat, k = .int .i64 j ∧ 1 ≤ j ∧ j ≤ n + 1 ∧ w2.ownsRow w1.heap.size 3 1 rv j (vl (1 :: y.take (j - 1))) ∧ Below w1.heap.size w1 w2) (fun _ k _ => (n + 1 - intOf k).toNat)
      case atStart =>
        refine ⟨1, rfl, by omega, by omega, ?_, balloc _ _⟩
        exact World.ownsRow_lit w1 #[.int .i64 1] 1 (Nat.le_refl _) (by unfold maxLen; omega) rfl
      case round =>
        obtain ⟨j, rfl, hj1, hj2, hO, hB2⟩ := hrel
        have hsz := hB2.size
        obtain ⟨ra, rn, rc, rfl⟩ := orow_slice hO
        by_cases hjn : j ≤ n
        · have hji : (j : Int) ≤ n := by omega
          have hj0 : (j : Int) ≠ 0 := by omega
          have hdec2 : decide ((j : Int) ≤ n) = true := by simp; omega
          obtain ⟨hd1, hd2⟩ := HDIV.out j hj1 hjn
          have hcx := (hB2.cell (p := ⟨xb, xo + j, none⟩) hxw).trans (HXC.out j (by omega))
          rw [pl_at _ (by omega)] at hcx
          obtain ⟨c, Hc⟩ : ∃ c, Hid (lenC n (fnL a) j = c) := ⟨_, rfl⟩
          rw [Hc.out] at hd1 hd2 hcx
          have hdi : (c : Int) / (j : Int) = ((c / j : Nat) : Int) := by simp
          rw [hd1] at hdi
          obtain ⟨d, Hd⟩ : ∃ d, Hid (y.getD (j - 1) 0 = d) := ⟨_, rfl⟩
          have hdb : y.getD (j - 1) 0 ≤ c := by rw [← hd1]; exact Nat.div_le_self _ _
          rw [Hd.out] at hdi hdb
          have HS : Hid (vl (1 :: y.take j) = vl (1 :: y.take (j - 1)) ++ [.int .i64 (d : Int)]) := by
            show _ = _
            have h1 : j - 1 < y.length := by rw [HYL.out]; omega
            have e : y.take j = y.take (j - 1) ++ [d] := by
              conv => lhs; rw [show j = j - 1 + 1 by omega]
              rw [List.take_add_one, List.getElem?_eq_getElem h1, ← Hd.out]
              simp [h1]
            rw [e, ← List.cons_append, vl_append]
            rfl
          clear hd1
          go_wp2_with (first
            | (at_builtin; refine wpList_append_own _ rfl _ _ 40 rfl w1.heap.size 3 i3 (.int .i64 0) 1 8 und22 ti tz0 tz1 tz2 rfl (by decide) _ _ _ rfl (hO.alloc _) ⟨wr.heap.size, 0, none⟩ 1 1 [.int .i64 (d : Int)] rfl rfl ?c1 ?c2 ?c3 ?c4 ?c5 ?_)
            | go_in)
          case c1 =>
            intro i u hq
            match i, hq with
            | 0, hq => simp at hq; subst hq; exact cell_new _ _ _ _ rfl
          case c2 => intro u hu; simp at hu; subst hu; rfl
          case c3 => unfold maxLen; omega
          case c4 => omega
          case c5 => simp; omega
          intro o' w2 hO2 hg2 _
          have hU2 : Below w1.heap.size wr w2 := ((Below.refl _ _).alloc (by omega) _).grown hg2 (by simp; omega) (fun k hk => (hO.lt k hk).1)
          have hB3 := hB2.trans hU2
          clear hU2 hg2 hO hB2
          go_wp2
          go_roundw
          case rel => exact ⟨j + 1, by go_num, by omega, by omega, by rw [Nat.add_sub_cancel, HS.out]; exact hO2, hB3⟩
          case measure => simp [intOf]; omega
        · have hj3 : j = n + 1 := by omega
          have hdec2 : decide ((j : Int) ≤ n) = false := by simp; omega
          rw [hj3, Nat.add_sub_cancel, List.take_of_length_le (by rw [HYL.out]; omega)] at hO
          have HRW : Hid (RowIs wr w1.heap.size (.slice ra rn rc) (1 :: y)) := row_of hO (by rw [List.length_cons, HYL.out]) (by omega)
          obtain ⟨rb, rc', hre, hrb⟩ : ∃ g c, (Value.slice ra rn rc) = .slice (some ⟨g, 0, none⟩) (n + 1) c ∧ n + 1 ≤ c ∧ w1.heap.size ≤ g ∧ g < wr.heap.size := by
            obtain ⟨g, c, e, hg, hOO⟩ := HRW.out
            obtain ⟨a', c', e', hc⟩ := own_cap hO (by omega)
            rw [List.length_cons, HYL.out] at e
            rw [e] at e'
            simp only [Value.slice.injEq, true_and] at e'
            obtain ⟨_, rfl⟩ := e'
            exact ⟨g, c, e, hc, hg, hOO.lt⟩
          simp only [Value.slice.injEq] at hre
          obtain ⟨rfl, rfl, rfl⟩ := hre
          have HX2 : Hid (IxO wr w.heap.size (.slice oa q oc) us (rowsT ((E.take t).map (kt n)) T)) := HX1.out.below hB2
          have hBw := Below.next hB1 hB2
          have HNE : Hid (some rb ∉ us.map Value.ownBlock) := HX1.out.lt hrb.2.1
          have HRW2 : Hid (RowIs wr w.heap.size (.slice (some ⟨rb, 0, none⟩) (n + 1) rc) (1 :: y)) := HRW.out.base hs1
          have hrc := hrb.1
          obtain ⟨w2, rfl⟩ : ∃ w2, w2 = wr := ⟨_, rfl⟩
          obtain ⟨Z, HZ⟩ : ∃ Z, Hid ((E.take t).map (kt n) = Z) := ⟨_, rfl⟩
          rw [HZ.out] at HX2 HT HTK
          clear HX1 hB1 hB2 hO HDIV hrb HRW hcl2 hsz HXC hxw hj3
          go_wp2
          go_loopw [10] (fun x w3 => ∃ j : Nat, x = .int .i64 j ∧ j ≤ q ∧ Hid (∀ i z, i < j → T[i]? = some z → ltT n y z) ∧ Below w2.heap.size w2 w3) (fun x _ => (q - intOf x).toNat)
          case atStart => exact ⟨0, rfl, by omega, (fun i z h => by omega : ∀ i z, i < 0 → _), Below.refl _ _⟩
          case round =>
            obtain ⟨j, rfl, hj, HG, hB3⟩ := hrel
            have HX3 : Hid (IxO wr w.heap.size (.slice oa q oc) us (rowsT Z T)) := HX2.out.below hB3
            have HR3 : Hid (RowIs wr w.heap.size (.slice (some ⟨rb, 0, none⟩) (n + 1) rc) (1 :: y)) := HRW2.out.below hB3
            by_cases hjq : j < q
            · have hji : (j : Int) < q := by omega
              have hj0 : (0 : Int) ≤ (j : Int) := by omega
              have hdecj : decide ((j : Int) < q) = true := by simp; omega
              obtain ⟨z, hz⟩ : ∃ z, T[j]? = some z := ⟨T[j]'(by have := Hq.out; omega), by simp⟩
              have HZJ : Hid (T[j]? = some z) := hz
              have hzl : z.length = n := HT.out.lenT hz
              have hrz := rowsT_at (Z := Z) hz
              obtain ⟨cz, Hcz⟩ : ∃ c, Hid (Z.count z = c) := ⟨_, rfl⟩
              rw [Hcz.out] at hrz
              obtain ⟨g, c', b, cb, hve, hlc, hgw, hus, hcb, hbb, hcell, hOz⟩ := HX3.out.at hrz
              simp only [Value.slice.injEq] at hve
              obtain ⟨rfl, hve2, rfl⟩ := hve
              rw [rowsT_len, Hq.out] at hlc
              have hzl1 : (cz :: z).length = n + 1 := by rw [List.length_cons, hzl]
              rw [hzl1] at hus hcb hcell
              have HZL : Hid (z.length = n) := hzl
              have HRZ : Hid ((rowsT Z T)[j]? = some (cz :: z)) := hrz
              have HUS : Hid (us[j]? = some (.slice (some ⟨b, 0, none⟩) (n + 1) cb)) := hus
              have C43 := greater_any (cz :: z) (1 :: y) (.slice (some ⟨b, 0, none⟩) (n + 1) cb) (.slice (some ⟨rb, 0, none⟩) (n + 1) rc) wr (HX3.out.row j _ _ hus hrz).sl HR3.out.sl (by simp) (by rw [hzl1, List.length_cons, HYL.out]) (by rw [hzl1]; omega)
              obtain ⟨gt, Hgt⟩ : ∃ x, Hid (gtB (cz :: z) (1 :: y) = x) := ⟨_, rfl⟩
              rw [Hgt.out] at C43
              have hcz : cz ≤ 5040 := by
                have h1 : Z.count z ≤ Z.length := List.count_le_length
                have h2 : Z.length ≤ t := by rw [← HZ.out, List.length_map, List.length_take]; omega
                rw [Hcz.out] at h1
                omega
              clear hz hzl hrz hve2 hus hzl1
              cases gt with
              | true =>
                have HL : Hid (ltT n y z) := (gtB_cons HZL.out).1 Hgt.out
                go_wp2_with (go_at_call 43; refine C43.mono ?_; rintro e w4 ⟨rfl, b4⟩; have hB4 := Below.next hB3 b4)
                go_roundw
                case rel =>
                  refine ⟨j + 1, by go_num, by omega, (fun i z' h h' => ?_ : ∀ i z', i < j + 1 → T[i]? = some z' → ltT n y z'), hB4⟩
                  by_cases e : i = j
                  · subst e
                    rw [HZJ.out, Option.some.injEq] at h'
                    subst h'
                    exact HL.out
                  · exact HG.out i z' (by omega) h'
                case measure => simp [intOf]; omega
              | false =>
                have HL : Hid (¬ ltT n y z) := fun h => by
                  have := (gtB_cons (x := cz) (y := 1) HZL.out).2 h
                  rw [Hgt.out] at this
                  cases this
                go_wp2_with (go_at_call 43; refine C43.mono ?_; rintro e w4 ⟨rfl, b4⟩; have hB4 := Below.next hB3 b4)
                have HX4 : Hid (IxO w4 w.heap.size (.slice (some ⟨g, 0, none⟩) q oc) us (rowsT Z T)) := HX3.out.below b4
                have HR4 : Hid (RowIs w4 w.heap.size (.slice (some ⟨rb, 0, none⟩) (n + 1) rc) (1 :: y)) := HR3.out.below b4
                have hcell4 : w4.cell? ⟨g, j, none⟩ = some (.slice (some ⟨b, 0, none⟩) (n + 1) cb) := (b4.cell (p := ⟨g, j, none⟩) hgw).trans hcell
                have hgw4 : g < w4.heap.size := Nat.lt_of_lt_of_le hgw b4.size
                have CI := ints_any (z.map Int.ofNat) (y.map Int.ofNat) (.slice (some ⟨b, 1, none⟩) n (cb - 1)) (.slice (some ⟨rb, 1, none⟩) n (rc - 1)) w4.drew ((sl_tail (HX4.out.row j _ _ HUS.out HRZ.out) HZL.out).below (Below.refl _ _).drew) ((sl_tail HR4.out HYL.out).below (Below.refl _ _).drew) (by rw [List.length_map, HZL.out]; unfold maxLen; omega) (by rw [List.length_map, HYL.out]; unfold maxLen; omega)
                have hcb1 : ¬ cb = 1 := by omega
                have hrc1 : ¬ rc = 1 := by omega
                clear HX3 HR3 hcell hgw b4 hB3 C43 hOz HX2 HRW2
                refine wp_region_noPanic ?_
                refine wp_region_held_drew (S := fun w' => w'.cell? ⟨g, j, none⟩ = some (.slice (some ⟨b, 0, none⟩) (n + 1) cb)) (by kernel_rfl) hcell4 (fun hSx => ?_)
                refine wpAnyH_take (i := 0) (v := .slice (some ⟨g, 0, none⟩) q oc) rfl (by kernel_rfl) (by kernel_rfl) (by kernel_rfl) (fun _ _ _ h => h) (Or.inl ⟨by rfl, fun w' hSw => by clear hSw; go_simp⟩) hSx ?_
                try simp only [Act.put, List.setIfInBounds_toArray]
                refine wpAnyH_take (i := 1) (v := .int .i64 (j : Int)) rfl (by kernel_rfl) (by kernel_rfl) (by kernel_rfl) (fun _ _ _ h => h) (Or.inl ⟨by rfl, fun w' hSw => by clear hSw; go_simp⟩) hSx ?_
                try simp only [Act.put]
                refine wpAnyH_take (i := 2) (v := .pointer (some ⟨g, j, none⟩)) rfl (by kernel_rfl) (by kernel_rfl) (by kernel_rfl) (fun _ _ _ h => h) (Or.inl ⟨by rfl, fun w' hSw => by clear hSw; go_simp⟩) hSx ?_
                try simp only [Act.put]
                refine wpAnyH_take (i := 3) (v := .slice (some ⟨b, 0, none⟩) (n + 1) cb) rfl (by kernel_rfl) (by kernel_rfl) (by kernel_rfl) (fun _ _ _ h => h) (Or.inl ⟨by rfl, fun w' hSw => by (try dsimp only at hSw); go_simp⟩) hSx ?_
                try simp only [Act.put]
                refine wpAnyH_take (i := 4) (v := .slice (some ⟨b, 1, none⟩) n (cb - 1)) rfl (by kernel_rfl) (by kernel_rfl) (by kernel_rfl) (fun _ _ _ h => h) (Or.inl ⟨by rfl, fun w' hSw => by clear hSw; go_simp; intro _; omega⟩) hSx ?_
                try simp only [Act.put]
                refine wpAnyH_take (i := 5) (v := .slice (some ⟨rb, 0, none⟩) (n + 1) rc) rfl (by kernel_rfl) (by kernel_rfl) (by kernel_rfl) (fun _ _ _ h => h) (Or.inl ⟨by rfl, fun w' hSw => by clear hSw; go_simp⟩) hSx ?_
                try simp only [Act.put]
                refine wpAnyH_take (i := 6) (v := .slice (some ⟨rb, 1, none⟩) n (rc - 1)) rfl (by kernel_rfl) (by kernel_rfl) (by kernel_rfl) (fun _ _ _ h => h) (Or.inl ⟨by rfl, fun w' hSw => by clear hSw; go_simp; intro _; omega⟩) hSx ?_
                try simp only [Act.put]
                refine wpAnyH_ready (rs := [7]) (by kernel_rfl) (by simp) ?_
                refine AllReadyH.cons rfl (fun J hJ => ?_) AllReadyH.nil
                go_simp
                refine (CI).mono ?_
                rintro e w5 ⟨sm, rfl, hsm, b5⟩
                have hS5 : w5.cell? ⟨g, j, none⟩ = some (.slice (some ⟨b, 0, none⟩) (n + 1) cb) := (b5.cell (p := ⟨g, j, none⟩) hgw4).trans hcell4
                have b5' : Below w4.heap.size w4 w5 := Below.next (Below.refl _ _).drew b5
                go_wp2_with fail
                refine hJ.out _ _ hS5 (fun _ => ?_)
                clear hJ J
                try simp only [Act.put, List.setIfInBounds_toArray, List.set_cons_zero, List.set_cons_succ]
                refine wpAnyH_ready (rs := [8]) (by kernel_rfl) (by simp) ?_
                refine AllReadyH.cons rfl (fun J hJ => ?_) AllReadyH.nil
                go_simp
                refine hJ.out _ _ hS5 (fun _ => ?_)
                clear hJ J
                try simp only [Act.put, List.setIfInBounds_toArray, List.set_cons_zero, List.set_cons_succ]
                refine wpAnyH_done (by kernel_rfl) ?_ _
                refine NoPanic.normal ?_
                have HX5 : Hid (IxO w5 w.heap.size (.slice (some ⟨g, 0, none⟩) q oc) us (rowsT Z T)) := HX4.out.below b5'
                have HR5 : Hid (RowIs w5 w.heap.size (.slice (some ⟨rb, 0, none⟩) (n + 1) rc) (1 :: y)) := HR4.out.below b5'
                have hB5 := Below.next hBw (Below.next hB4 b5')
                have HSM : Hid (sm = true ↔ z = y) := (hsm.trans ⟨fun h => map_inj h, fun h => by rw [h]⟩)
                clear hSx HX4 HR4 hB4 hBw b5 b5' CI hcell4 hgw4 hsm
                cases sm with
                | true =>
                  have hzy := HSM.out.1 rfl
                  subst hzy
                  have HK : Hid (TIs n (Z ++ [z]) T ∧ rowsT (Z ++ [z]) T = (rowsT Z T).set j ((cz + 1) :: z)) := ⟨HT.out.same (List.mem_of_getElem? HZJ.out), by rw [rowsT_same HT.out.nodup HZJ.out, Hcz.out]⟩
                  have hO5 : Own w5 b (n + 1) (fun j => ((cz :: z).getD j 0 : Int)) := by
                    obtain ⟨b', c', e, _, h⟩ := HX5.out.row j _ _ HUS.out HRZ.out
                    simp only [Value.slice.injEq, Option.some.injEq, Addr.mk.injEq, and_true] at e
                    obtain ⟨rfl, _, _⟩ := e
                    rw [List.length_cons, HZL.out] at h
                    exact h
                  have hc0 : w5.cell? ⟨b, 0, none⟩ = some (.int .i64 (cz : Int)) := hO5.cell 0 (by omega)
                  have hf0 := hO5.frozen 0
                  have hcj : w5.cell? ⟨g, j, none⟩ = some (.slice (some ⟨b, 0, none⟩) (n + 1) cb) := hS5
                  have hX6 := HX5.out.bump HRZ.out HUS.out
                  have hbw : w.heap.size ≤ b := hbb
                  have HX6 : Hid (IxO (w5.setCell ⟨b, 0, none⟩ (.int .i64 ((cz : Int) + 1))) w.heap.size (.slice (some ⟨g, 0, none⟩) q oc) us (rowsT (Z ++ [z]) T)) := by show IxO _ _ _ _ _; rw [HK.out.2]; exact hX6
                  have HT6 : Hid (TIs n (Z ++ [z]) T) := HK.out.1
                  rw [← HTK.out] at HX6 HT6
                  have hB6 : Below w.heap.size w (w5.setCell ⟨b, 0, none⟩ (.int .i64 ((cz : Int) + 1))) := hB5.setCell (p := ⟨b, 0, none⟩) hbw _
                  clear hX6 hO5 hS5 HK
                  go_wp2
                  go_roundw
                  case rel => exact ⟨t + 1, T, us, by go_num, by omega, HT6, HX6, hB6, by rw [Hq.out]; omega⟩
                  case measure => simp [intOf]; omega
                | false =>
                  have HRT : Hid (∀ y', T[j]? = some y' → ltT n y' y) := fun y' h => by
                    rw [HZJ.out, Option.some.injEq] at h
                    subst h
                    exact Classical.byContradiction fun e => by
                      have := HSM.out.2 (ltT_total HZL.out HYL.out e HL.out)
                      cases this
                  have HI : Hid (TIs n ((E.take (t + 1)).map (kt n)) (T.take j ++ y :: T.drop j) ∧ rowsT ((E.take (t + 1)).map (kt n)) (T.take j ++ y :: T.drop j) = (rowsT Z T).take j ++ (1 :: y) :: (rowsT Z T).drop j) := by
                    show _ ∧ _
                    rw [HTK.out]
                    exact ⟨HT.out.ins HYL.out HG.out HRT.out, rowsT_ins (HT.out.fresh HG.out HRT.out) fun y' h => (HT.out.mem y').1 h⟩
                  have hoj : ¬ oc - j = 0 := by omega
                  have hoj2 : j ≤ oc := by omega
                  clear HSM
                  have hsW := hB5.size
                  go_wp2_with (first
                    | (at_builtin; refine wpList_append_src _ rfl _ _ 28 rfl w5.heap.size 40 i22 (.slice none 0 0) 24 und54 hi' hz0' hz1' hz2' rfl _ 0 [] rfl (World.ownsRow_nil _ _ _ _) _ j (us.take j) rfl ?s1 ?s2 ?s3 ?s4 (Nat.le_refl _) ?_)
                    | go_in)
                  case s1 => exact src_lo HX5.out (by rw [rowsT_len, Hq.out]; omega)
                  case s2 => intro u hu; obtain ⟨_, _, _, rfl, _⟩ := HX5.out.cap u (List.mem_of_mem_take hu); rfl
                  case s3 => unfold maxLen; omega
                  case s4 => omega
                  intro v1 w6 hO6 hg6 _
                  have hb6 : Below w5.heap.size w5 w6 := (Below.refl _ _).grown hg6 (Nat.le_refl _) (fun k hk => by simp [Value.ownBlock] at hk)
                  have hs6 := hb6.size
                  try simp only [Nat.zero_add, List.nil_append] at hO6
                  obtain ⟨v1a, v1l, v1c, rfl⟩ := orow_slice hO6
                  clear hg6
                  go_wp2_with (first
                    | (at_builtin; refine wpList_append_src _ rfl _ _ 28 rfl w5.heap.size 40 i22 (.slice none 0 0) 24 und54 hi' hz0' hz1' hz2' rfl _ j (us.take j) rfl (hO6.alloc _) _ 1 [.slice (some ⟨rb, 0, none⟩) (n + 1) rc] rfl ?s1 ?s2 ?s3 ?s4 ?s5 ?_)
                    | go_in)
                  case s1 => exact .inr ⟨⟨w6.heap.size, 0, none⟩, 1, rfl, rfl, cell_one_new _ _ _⟩
                  case s2 => intro u hu; simp at hu; subst hu; rfl
                  case s3 => unfold maxLen; omega
                  case s4 => omega
                  case s5 => simp; omega
                  intro v2 w7 hO7 hg7 _
                  have hb7 : Below w5.heap.size w6 w7 := ((Below.refl _ _).alloc (by omega) _).grown hg7 (by simp; omega) (fun k hk => (hO6.lt k hk).1)
                  have hB7 := hb6.trans hb7
                  have hs7 := hB7.size
                  obtain ⟨v2a, v2l, v2c, rfl⟩ := orow_slice hO7
                  clear hg7 hb7 hb6 hO6
                  go_wp2_with (first
                    | (at_builtin; refine wpList_append_src _ rfl _ _ 28 rfl w5.heap.size 40 i22 (.slice none 0 0) 24 und54 hi' hz0' hz1' hz2' rfl _ (j + 1) _ rfl hO7 _ (q - j) (us.drop j) rfl ?s1 ?s2 ?s3 ?s4 hs7 ?_)
                    | go_in)
                  case s1 => exact src_hi (HX5.out.below hB7) (by rw [rowsT_len, Hq.out])
                  case s2 => intro u hu; obtain ⟨_, _, _, rfl, _⟩ := HX5.out.cap u (List.mem_of_mem_drop hu); rfl
                  case s3 => unfold maxLen; omega
                  case s4 => omega
                  intro v3 w8 hO8 hg8 _
                  have hb8 : Below w5.heap.size w7 w8 := (Below.refl _ _).grown hg8 hs7 (fun k hk => (hO7.lt k hk).1)
                  have hB8 := hB7.trans hb8
                  have HX8 : Hid (IxO w8 w.heap.size v3 (us.take j ++ (.slice (some ⟨rb, 0, none⟩) (n + 1) rc) :: us.drop j) ((rowsT Z T).take j ++ (1 :: y) :: (rowsT Z T).drop j)) := HX5.out.ins j (by rw [rowsT_len, Hq.out]; omega) HR5.out ⟨_, _, _, rfl, hrc⟩ HNE.out hB8 (by
                    have h := orow_base hO8 hsW
                    try rw [show j + 1 + (q - j) = q + 1 by omega] at h
                    rw [rowsT_len, Hq.out]
                    exact h)
                  rw [← HI.out.2] at HX8
                  obtain ⟨v3a, v3l, v3c, rfl⟩ := orow_slice hO8
                  have hBF := Below.next hB5 hB8
                  clear hg8 hb8 hB8 hO8 hO7 hB7
                  go_wp2
                  go_roundw
                  case rel => exact ⟨t + 1, _, _, by go_num, by omega, HI.out.1, HX8, hBF, by rw [List.length_append, List.length_cons, List.length_take, List.length_drop, Hq.out]; omega⟩
                  case measure => simp [intOf]; omega
            · have hdecj : decide ((j : Int) < q) = false := by simp; omega
              have HRT : Hid (∀ y', T[j]? = some y' → ltT n y' y) := fun y' h => by
                have := (List.getElem?_eq_some_iff.1 h).1
                have := Hq.out
                omega
              have HI : Hid (TIs n ((E.take (t + 1)).map (kt n)) (T.take j ++ y :: T.drop j) ∧ rowsT ((E.take (t + 1)).map (kt n)) (T.take j ++ y :: T.drop j) = (rowsT Z T).take j ++ (1 :: y) :: (rowsT Z T).drop j) := by
                show _ ∧ _
                rw [HTK.out]
                exact ⟨HT.out.ins HYL.out HG.out HRT.out, rowsT_ins (HT.out.fresh HG.out HRT.out) fun y' h => (HT.out.mem y').1 h⟩
              have hBW := Below.next hBw hB3
              obtain rfl : j = q := by omega
              have HUL : Hid (us.length ≤ j) := by have h := HX3.out.len; rw [rowsT_len, Hq.out] at h; exact Nat.le_of_eq h
              have hform := HX3.out.form
              rw [rowsT_len, Hq.out] at hform
              rcases hform with ⟨he, hnil⟩ | ⟨g, c, he, hqc, hgw, _⟩
              · simp only [Value.slice.injEq] at he
                obtain ⟨rfl, rfl, rfl⟩ := he
                have HUN : Hid (us = []) := List.length_eq_zero_iff.1 (by have := HUL.out; omega)
                clear HX2 HRW2 hBw hB3 hnil
                have hsW := hBW.size
                go_wp2_with (first
                  | (at_builtin; refine wpList_append_src _ rfl _ _ 28 rfl wr.heap.size 40 i22 (.slice none 0 0) 24 und54 hi' hz0' hz1' hz2' rfl _ 0 [] rfl (World.ownsRow_nil _ _ _ _) _ 0 (us.take 0) rfl ?s1 ?s2 ?s3 ?s4 (Nat.le_refl _) ?_)
                  | go_in)
                case s1 => exact .inl ⟨rfl, rfl, by rw [HUN.out]; rfl⟩
                case s2 => intro u hu; obtain ⟨_, _, _, rfl, _⟩ := HX3.out.cap u (List.mem_of_mem_take hu); rfl
                case s3 => unfold maxLen; omega
                case s4 => omega
                intro v1 w6 hO6 hg6 _
                have hb6 : Below wr.heap.size wr w6 := (Below.refl _ _).grown hg6 (Nat.le_refl _) (fun k hk => by simp [Value.ownBlock] at hk)
                have hs6 := hb6.size
                try simp only [Nat.zero_add, List.nil_append] at hO6
                obtain ⟨v1a, v1l, v1c, rfl⟩ := orow_slice hO6
                clear hg6
                go_wp2_with (first
                  | (at_builtin; refine wpList_append_src _ rfl _ _ 28 rfl wr.heap.size 40 i22 (.slice none 0 0) 24 und54 hi' hz0' hz1' hz2' rfl _ 0 (us.take 0) rfl (hO6.alloc _) _ 1 [.slice (some ⟨rb, 0, none⟩) (n + 1) rc] rfl ?s1 ?s2 ?s3 ?s4 ?s5 ?_)
                  | go_in)
                case s1 => exact .inr ⟨⟨w6.heap.size, 0, none⟩, 1, rfl, rfl, cell_one_new _ _ _⟩
                case s2 => intro u hu; simp at hu; subst hu; rfl
                case s3 => unfold maxLen; omega
                case s4 => omega
                case s5 => simp; omega
                intro v2 w7 hO7 hg7 _
                have hb7 : Below wr.heap.size w6 w7 := ((Below.refl _ _).alloc (by omega) _).grown hg7 (by simp; omega) (fun k hk => (hO6.lt k hk).1)
                have hB7 := hb6.trans hb7
                have hs7 := hB7.size
                obtain ⟨v2a, v2l, v2c, rfl⟩ := orow_slice hO7
                clear hg7 hb7 hb6 hO6
                go_wp2_with (first
                  | (at_builtin; refine wpList_append_src _ rfl _ _ 28 rfl wr.heap.size 40 i22 (.slice none 0 0) 24 und54 hi' hz0' hz1' hz2' rfl _ (0 + 1) _ rfl hO7 _ (0 - 0) (us.drop 0) rfl ?s1 ?s2 ?s3 ?s4 hs7 ?_)
                  | go_in)
                case s1 => exact .inl ⟨rfl, rfl, by rw [HUN.out]; rfl⟩
                case s2 => intro u hu; obtain ⟨_, _, _, rfl, _⟩ := HX3.out.cap u (List.mem_of_mem_drop hu); rfl
                case s3 => unfold maxLen; omega
                case s4 => omega
                intro v3 w8 hO8 hg8 _
                have hb8 : Below wr.heap.size w7 w8 := (Below.refl _ _).grown hg8 hs7 (fun k hk => (hO7.lt k hk).1)
                have hB8 := hB7.trans hb8
                have HX8 : Hid (IxO w8 w.heap.size v3 (us.take 0 ++ (.slice (some ⟨rb, 0, none⟩) (n + 1) rc) :: us.drop 0) ((rowsT Z T).take 0 ++ (1 :: y) :: (rowsT Z T).drop 0)) := HX3.out.ins 0 (by rw [rowsT_len, Hq.out]; omega) HR3.out ⟨_, _, _, rfl, hrc⟩ HNE.out hB8 (by
                  have h := orow_base hO8 hsW
                  try rw [show 0 + 1 + (0 - 0) = 0 + 1 by omega] at h
                  rw [rowsT_len, Hq.out]
                  exact h)
                rw [← HI.out.2] at HX8
                obtain ⟨v3a, v3l, v3c, rfl⟩ := orow_slice hO8
                have hBF := Below.next hBW hB8
                clear hg8 hb8 hB8 hO8 hO7 hB7
                go_wp2
                go_roundw
                case rel => exact ⟨t + 1, _, _, by go_num, by omega, HI.out.1, HX8, hBF, by rw [List.length_append, List.length_cons, List.length_take, List.length_drop, Hq.out]; omega⟩
                case measure => simp [intOf]; omega
              · simp only [Value.slice.injEq, true_and] at he
                obtain ⟨rfl, rfl⟩ := he
                clear HX2 HRW2 hBw hB3
                by_cases hoj0 : oc = j
                · obtain rfl : j = oc := hoj0.symm
                  have hsW := hBW.size
                  go_wp2_with (first
                    | (at_builtin; refine wpList_append_src _ rfl _ _ 28 rfl wr.heap.size 40 i22 (.slice none 0 0) 24 und54 hi' hz0' hz1' hz2' rfl _ 0 [] rfl (World.ownsRow_nil _ _ _ _) _ j (us.take j) rfl ?s1 ?s2 ?s3 ?s4 (Nat.le_refl _) ?_)
                    | go_in)
                  case s1 => exact src_lo HX3.out (by rw [rowsT_len, Hq.out]; omega)
                  case s2 => intro u hu; obtain ⟨_, _, _, rfl, _⟩ := HX3.out.cap u (List.mem_of_mem_take hu); rfl
                  case s3 => unfold maxLen; omega
                  case s4 => omega
                  intro v1 w6 hO6 hg6 _
                  have hb6 : Below wr.heap.size wr w6 := (Below.refl _ _).grown hg6 (Nat.le_refl _) (fun k hk => by simp [Value.ownBlock] at hk)
                  have hs6 := hb6.size
                  try simp only [Nat.zero_add, List.nil_append] at hO6
                  obtain ⟨v1a, v1l, v1c, rfl⟩ := orow_slice hO6
                  clear hg6
                  go_wp2_with (first
                    | (at_builtin; refine wpList_append_src _ rfl _ _ 28 rfl wr.heap.size 40 i22 (.slice none 0 0) 24 und54 hi' hz0' hz1' hz2' rfl _ j (us.take j) rfl (hO6.alloc _) _ 1 [.slice (some ⟨rb, 0, none⟩) (n + 1) rc] rfl ?s1 ?s2 ?s3 ?s4 ?s5 ?_)
                    | go_in)
                  case s1 => exact .inr ⟨⟨w6.heap.size, 0, none⟩, 1, rfl, rfl, cell_one_new _ _ _⟩
                  case s2 => intro u hu; simp at hu; subst hu; rfl
                  case s3 => unfold maxLen; omega
                  case s4 => omega
                  case s5 => simp; omega
                  intro v2 w7 hO7 hg7 _
                  have hb7 : Below wr.heap.size w6 w7 := ((Below.refl _ _).alloc (by omega) _).grown hg7 (by simp; omega) (fun k hk => (hO6.lt k hk).1)
                  have hB7 := hb6.trans hb7
                  have hs7 := hB7.size
                  obtain ⟨v2a, v2l, v2c, rfl⟩ := orow_slice hO7
                  clear hg7 hb7 hb6 hO6
                  go_wp2_with (first
                    | (at_builtin; refine wpList_append_src _ rfl _ _ 28 rfl wr.heap.size 40 i22 (.slice none 0 0) 24 und54 hi' hz0' hz1' hz2' rfl _ (j + 1) _ rfl hO7 _ (j - j) (us.drop j) rfl ?s1 ?s2 ?s3 ?s4 hs7 ?_)
                    | go_in)
                  case s1 => exact src_zero HUL.out (by omega) (by omega)
                  case s2 => intro u hu; obtain ⟨_, _, _, rfl, _⟩ := HX3.out.cap u (List.mem_of_mem_drop hu); rfl
                  case s3 => unfold maxLen; omega
                  case s4 => omega
                  intro v3 w8 hO8 hg8 _
                  have hb8 : Below wr.heap.size w7 w8 := (Below.refl _ _).grown hg8 hs7 (fun k hk => (hO7.lt k hk).1)
                  have hB8 := hB7.trans hb8
                  have HX8 : Hid (IxO w8 w.heap.size v3 (us.take j ++ (.slice (some ⟨rb, 0, none⟩) (n + 1) rc) :: us.drop j) ((rowsT Z T).take j ++ (1 :: y) :: (rowsT Z T).drop j)) := HX3.out.ins j (by rw [rowsT_len, Hq.out]; omega) HR3.out ⟨_, _, _, rfl, hrc⟩ HNE.out hB8 (by
                    have h := orow_base hO8 hsW
                    try rw [show j + 1 + (j - j) = j + 1 by omega] at h
                    rw [rowsT_len, Hq.out]
                    exact h)
                  rw [← HI.out.2] at HX8
                  obtain ⟨v3a, v3l, v3c, rfl⟩ := orow_slice hO8
                  have hBF := Below.next hBW hB8
                  clear hg8 hb8 hB8 hO8 hO7 hB7
                  go_wp2
                  go_roundw
                  case rel => exact ⟨t + 1, _, _, by go_num, by omega, HI.out.1, HX8, hBF, by rw [List.length_append, List.length_cons, List.length_take, List.length_drop, Hq.out]; omega⟩
                  case measure => simp [intOf]; omega
                · have hoj : ¬ oc - j = 0 := by omega
                  have hsW := hBW.size
                  go_wp2_with (first
                    | (at_builtin; refine wpList_append_src _ rfl _ _ 28 rfl wr.heap.size 40 i22 (.slice none 0 0) 24 und54 hi' hz0' hz1' hz2' rfl _ 0 [] rfl (World.ownsRow_nil _ _ _ _) _ j (us.take j) rfl ?s1 ?s2 ?s3 ?s4 (Nat.le_refl _) ?_)
                    | go_in)
                  case s1 => exact src_lo HX3.out (by rw [rowsT_len, Hq.out]; omega)
                  case s2 => intro u hu; obtain ⟨_, _, _, rfl, _⟩ := HX3.out.cap u (List.mem_of_mem_take hu); rfl
                  case s3 => unfold maxLen; omega
                  case s4 => omega
                  intro v1 w6 hO6 hg6 _
                  have hb6 : Below wr.heap.size wr w6 := (Below.refl _ _).grown hg6 (Nat.le_refl _) (fun k hk => by simp [Value.ownBlock] at hk)
                  have hs6 := hb6.size
                  try simp only [Nat.zero_add, List.nil_append] at hO6
                  obtain ⟨v1a, v1l, v1c, rfl⟩ := orow_slice hO6
                  clear hg6
                  go_wp2_with (first
                    | (at_builtin; refine wpList_append_src _ rfl _ _ 28 rfl wr.heap.size 40 i22 (.slice none 0 0) 24 und54 hi' hz0' hz1' hz2' rfl _ j (us.take j) rfl (hO6.alloc _) _ 1 [.slice (some ⟨rb, 0, none⟩) (n + 1) rc] rfl ?s1 ?s2 ?s3 ?s4 ?s5 ?_)
                    | go_in)
                  case s1 => exact .inr ⟨⟨w6.heap.size, 0, none⟩, 1, rfl, rfl, cell_one_new _ _ _⟩
                  case s2 => intro u hu; simp at hu; subst hu; rfl
                  case s3 => unfold maxLen; omega
                  case s4 => omega
                  case s5 => simp; omega
                  intro v2 w7 hO7 hg7 _
                  have hb7 : Below wr.heap.size w6 w7 := ((Below.refl _ _).alloc (by omega) _).grown hg7 (by simp; omega) (fun k hk => (hO6.lt k hk).1)
                  have hB7 := hb6.trans hb7
                  have hs7 := hB7.size
                  obtain ⟨v2a, v2l, v2c, rfl⟩ := orow_slice hO7
                  clear hg7 hb7 hb6 hO6
                  go_wp2_with (first
                    | (at_builtin; refine wpList_append_src _ rfl _ _ 28 rfl wr.heap.size 40 i22 (.slice none 0 0) 24 und54 hi' hz0' hz1' hz2' rfl _ (j + 1) _ rfl hO7 _ (j - j) (us.drop j) rfl ?s1 ?s2 ?s3 ?s4 hs7 ?_)
                    | go_in)
                  case s1 => exact src_zero HUL.out (by omega) (by omega)
                  case s2 => intro u hu; obtain ⟨_, _, _, rfl, _⟩ := HX3.out.cap u (List.mem_of_mem_drop hu); rfl
                  case s3 => unfold maxLen; omega
                  case s4 => omega
                  intro v3 w8 hO8 hg8 _
                  have hb8 : Below wr.heap.size w7 w8 := (Below.refl _ _).grown hg8 hs7 (fun k hk => (hO7.lt k hk).1)
                  have hB8 := hB7.trans hb8
                  have HX8 : Hid (IxO w8 w.heap.size v3 (us.take j ++ (.slice (some ⟨rb, 0, none⟩) (n + 1) rc) :: us.drop j) ((rowsT Z T).take j ++ (1 :: y) :: (rowsT Z T).drop j)) := HX3.out.ins j (by rw [rowsT_len, Hq.out]; omega) HR3.out ⟨_, _, _, rfl, hrc⟩ HNE.out hB8 (by
                    have h := orow_base hO8 hsW
                    try rw [show j + 1 + (j - j) = j + 1 by omega] at h
                    rw [rowsT_len, Hq.out]
                    exact h)
                  rw [← HI.out.2] at HX8
                  obtain ⟨v3a, v3l, v3c, rfl⟩ := orow_slice hO8
                  have hBF := Below.next hBW hB8
                  clear hg8 hb8 hB8 hO8 hO7 hB7
                  go_wp2
                  go_roundw
                  case rel => exact ⟨t + 1, _, _, by go_num, by omega, HI.out.1, HX8, hBF, by rw [List.length_append, List.length_cons, List.length_take, List.length_drop, Hq.out]; omega⟩
                  case measure => simp [intOf]; omega
    · obtain rfl : t = r := by omega
      have hkd : decide ((t : Int) < (t : Int)) = false := by simp
      have HTR : Hid ((E.take t).map (kt n) = E.map (kt n)) := by show _ = _; rw [List.take_of_length_le (by rw [Hr.out]; omega)]
      rw [HTR.out] at HT HX
      go_wp2
      go_ret
      exact ⟨⟨_, T, rfl, HT.out, HX.out.cyc.sl⟩, hB⟩

end Go.Proofs.Ytmaplmgecohjbaa
