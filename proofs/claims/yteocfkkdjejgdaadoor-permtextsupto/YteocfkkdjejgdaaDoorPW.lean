/- The walks of join, write, Cycles. -/
import Derived.Test.YteocfkkdjejgdaaDoorPSh
import Derived.Test.YteocfkkdjejgdaaDoorPRead
import Derived.Test.YteocfkkdjejgdaaDoorP39
import Derived.Test.YteocfkkdjejgdaaDoorP28
import Derived.Test.YteocfkkdjejgdaaDoorPCat
namespace Go.Proofs.YteocfkkdjejgdaaDoor
open Go.RowKit

theorem und59 : Tryd.prog.underlying 59 = some (.slice 9) := by kernel_rfl
theorem info9 : ∃ i, Tryd.prog.info? 9 = some i ∧ i.zero = some (.string ByteArray.empty) ∧ i.size = 1 ∧ i.bytes = 16 := by
  have h1 : (Tryd.prog.info? 9).map (·.zero) = some (some (.string ByteArray.empty)) := by kernel_rfl
  have h2 : (Tryd.prog.info? 9).map (·.size) = some 1 := by kernel_rfl
  have h3 : (Tryd.prog.info? 9).map (·.bytes) = some 16 := by kernel_rfl
  match h : Tryd.prog.info? 9 with
  | none => rw [h] at h1; simp at h1
  | some i =>
    rw [h] at h1 h2 h3
    simp only [Option.map_some, Option.some.injEq] at h1 h2 h3
    exact ⟨i, rfl, h1, h2, h3⟩
/-- A row of texts of the call's own. -/
def OwnS (w : World) (g n : Nat) (f : Nat → List UInt8) : Prop := ∃ cur, w.heap[g]? = some (.cells cur 9 (0, 0)) ∧ ∀ j, j < n → cur[j]? = some (.string ⟨(f j).toArray⟩)
def updS (f : Nat → List UInt8) (i : Nat) (v : List UInt8) : Nat → List UInt8 := fun j => if j = i then v else f j
theorem OwnS.lt {w : World} {g n : Nat} {f : Nat → List UInt8} (h : OwnS w g n f) : g < w.heap.size := by
  obtain ⟨cur, h, _⟩ := h
  exact (Array.getElem?_eq_some_iff.1 h).1
theorem OwnS.cell {w : World} {g n : Nat} {f : Nat → List UInt8} (h : OwnS w g n f) (j : Nat) (hj : j < n) : w.cell? ⟨g, j, none⟩ = some (.string ⟨(f j).toArray⟩) := by
  obtain ⟨cur, h, hc⟩ := h
  rw [cell_of_row w g j _ _ _ h, hc j hj]
theorem OwnS.frozen {w : World} {g n : Nat} {f : Nat → List UInt8} (h : OwnS w g n f) (j : Nat) : w.frozen? ⟨g, j, none⟩ = false := by
  obtain ⟨cur, h, _⟩ := h
  exact frozen_of_row w g j _ _ h
theorem OwnS.set {w : World} {g n : Nat} {f : Nat → List UInt8} (h : OwnS w g n f) (i : Nat) (v : List UInt8) : OwnS (w.setCell ⟨g, i, none⟩ (.string ⟨v.toArray⟩)) g n (updS f i v) := by
  obtain ⟨cur, h, hc⟩ := h
  refine ⟨_, heap_setCell_same w g i _ _ _ h, fun j hj => ?_⟩
  have hcj := hc j hj
  rw [Array.getElem?_setIfInBounds]
  unfold updS
  by_cases e : i = j
  · subst e
    rw [if_pos rfl, if_pos rfl, if_pos (Array.getElem?_eq_some_iff.1 hcj).1]
  · rw [if_neg e, if_neg (fun h => e h.symm), hcj]
theorem ownS_made {w : World} {base g n : Nat} (h : w.ownsRow base 9 1 (.slice (some ⟨g, 0, none⟩) n n) n (madeCells #[Value.string ByteArray.empty] n).toList) : OwnS w g n (fun _ => []) := by
  obtain ⟨_, ⟨h1, _⟩ | ⟨g', cap, cur, e, hb, hg, h2, h3, h4, ht⟩⟩ := h
  · cases h1
  · cases e
    refine ⟨cur, hg, fun j hj => ?_⟩
    have e2 : (cur.toList.take (n * 1))[j]? = ((madeCells #[Value.string ByteArray.empty] n).toList)[j]? := by rw [ht]
    rw [List.getElem?_take, if_pos (by omega)] at e2
    rw [← Array.getElem?_toList, e2]
    simp [madeCells, hj, Nat.mod_one]
    rfl

theorem Itoa_dec (x : Nat) (hx : x < 12) (w : World) : Calls Tryd.prog 36 #[.int .i64 (x : Int)] w fun e w' => e = .returned (.string ⟨(dec x).toArray⟩) ∧ w' = w := by
  have := strconv_Itoa_small x (by omega) w
  rwa [dec_digits hx] at this
theorem Join_dec (l : List Nat) (g n : Nat) (hn : l.length = n) (h12 : n ≤ 12) (hx : ∀ x ∈ l, x < 12) (w : World) (h : OwnS w g n (fun j => dec (l.getD j 0))) :
    Calls Tryd.prog 37 #[.slice (some ⟨g, 0, none⟩) n n, .string ⟨#[32]⟩] w fun e w' => e = .returned (.string ⟨(joinS l).toArray⟩) ∧ Below w.heap.size w w' := by
  have e0 : (l.map fun x => (⟨(dec x).toArray⟩ : ByteArray)).length = n := by rw [List.length_map, hn]
  have e1 : ((l.map fun x => (⟨(dec x).toArray⟩ : ByteArray)).map (·.data.toList)) = l.map dec := by rw [List.map_map]; rfl
  have hl := joinS_len l hx
  have J := strings_Join g 0 n (l.map fun x => (⟨(dec x).toArray⟩ : ByteArray)) ⟨#[32]⟩ w (fun j x hj => by
    rw [List.getElem?_map] at hj
    obtain ⟨y, hy, rfl⟩ := Option.map_eq_some_iff.1 hj
    have hlt : j < l.length := (List.getElem?_eq_some_iff.1 hy).1
    rw [Nat.zero_add, h.cell j (by omega)]
    simp [List.getD_eq_getElem?_getD, hy]) h.lt (by omega) (by omega) (by rw [e1]; have : (Lib.join (l.map dec) [32]).length = (joinS l).length := rfl; show (Lib.join (l.map dec) [32]).length ≤ _; omega)
  rw [e0, e1] at J
  exact J

set_option maxRecDepth 100000 in
set_option maxHeartbeats 2000000 in
theorem join_any (l : List Nat) (n : Nat) (v : Value) (w : World) (hl : l.length = n) (hn : n ≤ 12) (hx : ∀ x ∈ l, x < 12) (hv : Sl w v (l.map Int.ofNat)) :
    Calls Tryd.prog 27 #[v] w fun e w' => e = .returned (.string ⟨(joinS l).toArray⟩) ∧ Below w.heap.size w w' := by
  obtain ⟨i9, hi, hz0, hz1, hz2⟩ := info9
  have C := fun x (h : x < 12) A => Itoa_dec x h A
  have J := fun A h => Join_dec l w.heap.size n hl hn hx A h
  obtain ⟨a, ca, rfl, hcv⟩ := hv
  rw [List.length_map, hl] at hcv ⊢
  have HV : Hid (∀ j, j < n → ∃ (B off x : Nat), a = some ⟨B, off, none⟩ ∧ w.cell? ⟨B, off + j, none⟩ = some (.int .i64 (x : Int)) ∧ x < 12 ∧ dec (l.getD j 0) = dec x) := fun j hj => by
    obtain ⟨B, off, e, hc⟩ := hcv j hj
    have hj' : j < l.length := by omega
    refine ⟨B, off, l.getD j 0, e, ?_, hx _ ?_, rfl⟩
    · rw [hc]; simp [List.getD_eq_getElem?_getD, hj']
    · simp [List.getD_eq_getElem?_getD, hj']
  obtain ⟨goal, Hgoal⟩ : ∃ g, Hid (joinS l = g) := ⟨_, rfl⟩
  rw [Hgoal.out] at J ⊢
  have HX : Hid (l.length = n) := hl
  clear hx hl hcv
  go_enter Tryd.func27, Tryd.ntmps27
  go_wp2_with (first
    | (at_make; refine wpList_make_full _ rfl _ _ 59 rfl w.heap.size 9 i9 (.string ByteArray.empty) 1 und59 hi hz0 hz1 .i64 .i64 (n : Int) (n : Int) n rfl rfl rfl rfl ?c1 ?c2 (Nat.le_refl _) ?_))
  case c1 => rw [hz2]; omega
  case c2 => unfold maxLen; omega
  intro w1 how1 hgr1
  have hO1 := ownS_made how1
  have hb1 : Below w.heap.size w w1 := ⟨hgr1.os, hgr1.tape, hgr1.output, hgr1.size, fun k hk => hgr1.block k hk (by simp)⟩
  clear how1 hgr1
  go_wp2
  go_loopw [11] (fun i wr => ∃ (j : Nat) (h : Nat → List UInt8), i = .int .i64 j ∧ j ≤ n ∧ OwnS wr w.heap.size n h ∧ Hid (∀ t, t < j → h t = dec (l.getD t 0)) ∧ Below w.heap.size w wr) (fun i _ => (n - intOf i).toNat)
  case atStart => exact ⟨0, _, rfl, by omega, hO1, (fun t ht => by omega : ∀ t, t < 0 → _), hb1⟩
  case round =>
    clear hO1 hb1
    obtain ⟨j, h, rfl, hj, hO, HH, hb⟩ := hrel
    by_cases hlt : j < n
    · have hji : (j : Int) < n := by omega
      have hjd : decide ((j : Int) < n) = true := decide_eq_true hji
      obtain ⟨B, off, x, rfl, hcx, hx12, hxe⟩ := HV.out j hlt
      have hBw : B < w.heap.size := by simpa using block_lt_of_cell hcx
      have hcx2 := (hb.cell (p := ⟨B, off + j, none⟩) hBw).trans hcx
      have hcell := hO.cell j hlt
      have hfr := hO.frozen j
      have D := fun A => C x hx12 A
      have HXE : Hid (dec (l.getD j 0) = dec x) := hxe
      clear hxe
      go_wp2_with (first
        | (go_at_call 36; refine (D _).mono ?_; rintro e w3 ⟨rfl, hw⟩; replace hw := hw.symm; subst hw))
      go_roundw
      case rel =>
        refine ⟨j + 1, updS h j (dec x), by go_num, by omega, hO.set j _, (fun t ht => ?_ : ∀ t, t < j + 1 → _), hb.setCell (p := ⟨w.heap.size, j, none⟩) (Nat.le_refl _) _⟩
        unfold updS
        by_cases e : t = j
        · subst e; rw [if_pos rfl, HXE.out]
        · rw [if_neg e]; exact HH.out t (by omega)
      case measure => simp [intOf]; omega
    · obtain rfl : j = n := by omega
      have hjd : decide ((j : Int) < (j : Int)) = false := by simp
      have hOr : OwnS wr w.heap.size j (fun t => dec (l.getD t 0)) := by
        obtain ⟨cur, h1, h2⟩ := hO
        exact ⟨cur, h1, fun t ht => by rw [h2 t ht, HH.out t ht]⟩
      clear hO HH
      go_wp2_with (first
        | (go_at_call 37; refine (J _ hOr).mono ?_; rintro e w4 ⟨rfl, hb4⟩))
      go_ret
      exact ⟨rfl, Below.next hb hb4⟩

/-! ### write -/
theorem IsB.below {B b : Nat} {bs : List Value} {w w' : World} (h : Lib.IsBuilderF 50 5 B b bs w) (hb : Below w.heap.size w w') : Lib.IsBuilderF 50 5 B b bs w' := by
  have key : ∀ p, Lib.BuilderAtF 50 5 B b p bs w → Lib.BuilderAtF 50 5 B b p bs w' := by
    rintro p ⟨h1, v, h2, h3, h4⟩
    refine ⟨h1, v, ?_, h3.kept (row := none) ⟨hb.os, hb.tape, hb.output, hb.size, fun k hk _ => hb.block k hk⟩ (by cases v.ownBlock <;> simp), h4⟩
    rw [hb.block b (Array.getElem?_eq_some_iff.1 h2).1]; exact h2
  exact h.imp (key _) (key _)
theorem CycR.ok {w w' : World} {base b : Nat} {v : Value} {ls : List (List Nat)} (h : CycR w base v ls) (k : Lib.OthersKept 5 (some b) w w') (hM : b < base) : CycR w' base v ls := by
  obtain ⟨vals, h1, h2⟩ := h
  refine ⟨vals, ?_, fun i u l hu hl => ?_⟩
  · obtain ⟨h3, h4 | ⟨g, cap, cur, h5, h6, h7, h8⟩⟩ := h1
    · exact ⟨h3, .inl h4⟩
    · exact ⟨h3, .inr ⟨g, cap, cur, h5, h6, k g _ h7 (fun e => by cases e; omega) (fun c fz e => by injection e with _ e2; exact absurd e2 (by decide)), h8⟩⟩
  · obtain ⟨g, cap, rfl, hg, cur, c1, c2⟩ := h2 i u l hu hl
    exact ⟨g, cap, rfl, hg, cur, k g _ c1 (fun e => by cases e; omega) (fun c fz e => by injection e with _ e2; exact absurd e2 (by decide)), c2⟩
theorem RowIs.sl {w : World} {base : Nat} {u : Value} {l : List Nat} (h : RowIs w base u l) : Sl w u (l.map Int.ofNat) := by
  obtain ⟨g, cap, rfl, hg, hO⟩ := h
  have := hO.sl cap
  have e : (List.range l.length).map (fun j => (l.getD j 0 : Int)) = l.map Int.ofNat := by
    apply List.ext_getElem
    · simp
    · intro i h1 h2
      simp at h1
      simp [List.getD_eq_getElem?_getD, h1]
  rw [e] at this
  exact this
def bigT (ls : List (List Nat)) : List UInt8 := (ls.filter fun c => decide (1 < c.length)).flatMap cycT
theorem bigT_more (ls : List (List Nat)) (l : List Nat) : bigT (ls ++ [l]) = bigT ls ++ if 1 < l.length then cycT l else [] := by
  unfold bigT
  rw [List.filter_append, List.flatMap_append]
  by_cases h : 1 < l.length <;> simp [h]
theorem take_more {ls : List (List Nat)} {k : Nat} {l : List Nat} (h : ls[k]? = some l) : ls.take (k + 1) = ls.take k ++ [l] := by rw [List.take_add_one, h]; rfl
theorem bigT_len (ls : List (List Nat)) (h : ∀ c ∈ ls, c.length ≤ 12 ∧ ∀ x ∈ c, x < 12) : (bigT ls).length ≤ 48 * ls.length := by
  unfold bigT
  have h1 := text_len (ls.filter fun c => decide (1 < c.length)) (fun c hc => ⟨of_decide_eq_true (List.mem_filter.1 hc).2, (h c (List.mem_filter.1 hc).1).2⟩)
  have h2 := flat_filter_len (fun c => decide (1 < c.length)) ls
  have h3 : ∀ ls : List (List Nat), (∀ c ∈ ls, c.length ≤ 12) → ls.flatten.length ≤ 12 * ls.length := by
    intro ls
    induction ls with
    | nil => intro _; simp
    | cons c ls ih =>
      intro h
      have := ih (fun c hc => h c (by simp [hc]))
      have := h c (by simp)
      rw [List.flatten_cons, List.length_append, List.length_cons]; omega
  have h4 := h3 ls (fun c hc => (h c hc).1)
  omega
theorem cat_eq (js : List UInt8) : ((⟨#[40]⟩ : ByteArray) ++ (⟨js.toArray⟩ : ByteArray) ++ (⟨#[41]⟩ : ByteArray)) = (⟨(40 :: (js ++ [41])).toArray⟩ : ByteArray) := by
  apply ByteArray.ext
  simp
theorem IsB.start (w : World) : Lib.IsBuilderF 50 5 w.heap.size w.heap.size (Lib.byteCells []) (w.alloc (.cells #[.pointer none, .slice none 0 0] 50)) :=
  .inl ⟨Nat.le_refl _, _, heap_alloc_new w _, World.ownsRowF_nil _ _ _ _, by simp [Value.ownBlock]⟩
theorem Write_text (b : Nat) (t u : List UInt8) (w : World) (h : Lib.IsBuilderF 50 5 b b (Lib.byteCells t) w) (ht : t.length ≤ 10000) (hu : u.length ≤ 10000) (hb : b ≤ w.heap.size) :
    Calls Tryd.prog 26 #[.pointer (some ⟨b, 0, none⟩), .string ⟨u.toArray⟩] w fun e w' => ∃ x, e = .returned x ∧ Lib.IsBuilderF 50 5 b b (Lib.byteCells (t ++ u)) w' ∧ Below b w w' ∧ Lib.OthersKept 5 (some b) w w' := by
  refine (Builder_WriteString_k b b _ _ w h (by rw [Lib.byteCells_length]; show t.length + u.toArray.size ≤ _; simp; omega) hb).mono ?_
  rintro e w' ⟨rfl, h1, h2, h3⟩
  refine ⟨_, rfl, .inr ?_, h2, h3⟩
  rw [Lib.byteCells_append]
  exact h1

set_option maxRecDepth 100000 in
set_option maxHeartbeats 2000000 in
theorem write_any (n : Nat) (f : Nat → Nat) (v : Value) (w : World) (hn : n ≤ 12) (hv : Sl w v (pl n f)) (P : Pm n f) :
    Calls Tryd.prog 15 #[v] w fun e w' => e = .returned (.string ⟨(permT n f).toArray⟩) ∧ Below w.heap.size w w' := by
  have C := fun W (h : Below w.heap.size w W) => cycles_any n f v W hn (hv.below h) P
  obtain ⟨ls, Hls⟩ : ∃ ls, Hid (cycs n f n = ls) := ⟨_, rfl⟩
  obtain ⟨r, Hr⟩ : ∃ r, Hid (ls.length = r) := ⟨_, rfl⟩
  have hr12 : r ≤ 12 := by rw [← Hr.out, ← Hls.out]; have := cycs_len_le n f n; omega
  have HM : Hid (∀ c ∈ ls, c.length ≤ 12 ∧ ∀ x ∈ c, x < 12) := fun c hc => by
    rw [← Hls.out] at hc
    obtain ⟨i, hi, rfl⟩ := List.mem_map.1 hc
    have hi := (mem_leads.1 hi).1
    have hp := (P.per hi).1
    refine ⟨by rw [cycL_length]; omega, fun x hx => ?_⟩
    have := cycL_lt P hi x hx
    omega
  have HT : Hid (∀ k, k ≤ r → (bigT (ls.take k)).length ≤ 1000) := fun k hk => by
    have := bigT_len (ls.take k) (fun c hc => HM.out c (List.mem_of_mem_take hc))
    have h2 : (ls.take k).length ≤ r := by rw [List.length_take]; omega
    omega
  have HE : Hid (permT n f = if bigT (ls.take r) = [] then [40, 41] else bigT (ls.take r)) := by
    show permT n f = _
    rw [List.take_of_length_le (by rw [Hr.out]; exact Nat.le_refl _), ← Hls.out]; rfl
  rw [Hls.out] at C
  obtain ⟨goal, Hgoal⟩ : ∃ g, Hid (permT n f = g) := ⟨_, rfl⟩
  rw [Hgoal.out]
  rw [Hgoal.out] at HE
  obtain ⟨a, ca, hve⟩ : ∃ a c, v = .slice a n c := by obtain ⟨a, c, e, _⟩ := hv; rw [pl_len] at e; exact ⟨a, c, e⟩
  subst hve
  have hb0 : Below w.heap.size w (w.alloc (.cells #[.pointer none, .slice none 0 0] 50)) := balloc w _
  have hI0 := IsB.start w
  clear hv P
  go_enter Tryd.func15, Tryd.ntmps15
  go_wp2_with (first
    | (go_at_call 25; refine (C _ hb0).mono ?_; rintro e w2 ⟨x, rfl, hss, hb2⟩; obtain ⟨xa, xc, rfl⟩ := hss.form; rw [Hr.out] at hss ⊢))
  have hI2 := IsB.below hI0 hb2
  have hB2 := Below.next hb0 hb2
  have hs0 : (w.alloc (.cells #[.pointer none, .slice none 0 0] 50)).heap.size = w.heap.size + 1 := by simp
  rw [hs0] at hss
  clear C hb2 hI0 hb0
  go_loopw [9] (fun i wr => ∃ (k : Nat), i = .int .i64 k ∧ k ≤ r ∧ Lib.IsBuilderF 50 5 w.heap.size w.heap.size (Lib.byteCells (bigT (ls.take k))) wr ∧ CycR wr (w.heap.size + 1 + 1) (.slice xa r xc) ls ∧ Below w.heap.size w wr) (fun i _ => (r - intOf i).toNat)
  case atStart => exact ⟨0, rfl, by omega, hI2, hss, hB2⟩
  case round =>
    clear hI2 hB2 hss
    obtain ⟨k, rfl, hk, hI, hss, hB⟩ := hrel
    by_cases hlt : k < r
    · have hki : (k : Int) < r := by omega
      have hdec : decide ((k : Int) < r) = true := decide_eq_true hki
      obtain ⟨l, hl⟩ : ∃ l, ls[k]? = some l := ⟨ls[k]'(by have := Hr.out; omega), by simp⟩
      have hlm := HM.out l (List.mem_of_getElem? hl)
      have HTk : Hid (ls.take (k + 1) = ls.take k ++ [l]) := take_more hl
      obtain ⟨b, off, u, rfl, hcu, hrow⟩ := hss.at' hl
      have hsl := hrow.sl
      obtain ⟨g, cap, rfl, hg, hOg⟩ := hrow
      obtain ⟨p, Hp⟩ : ∃ p, Hid (l.length = p) := ⟨_, rfl⟩
      rw [Hp.out] at hcu hOg hsl
      have hp12 : p ≤ 12 := by rw [← Hp.out]; exact hlm.1
      by_cases hp1 : 1 < p
      · have hd : decide ((1 : Int) < (p : Int)) = true := decide_eq_true (by omega)
        have J := fun A h => join_any l p (.slice (some ⟨g, 0, none⟩) p cap) A Hp.out hp12 hlm.2 h
        have hjl := joinS_len l hlm.2
        rw [Hp.out] at hjl
        obtain ⟨js, Hjs⟩ : ∃ js, Hid (joinS l = js) := ⟨_, rfl⟩
        rw [Hjs.out] at J hjl
        have HN : Hid (bigT (ls.take (k + 1)) = bigT (ls.take k) ++ 40 :: (js ++ [41])) := by
          show bigT (ls.take (k + 1)) = _
          rw [HTk.out, bigT_more, Hp.out, if_pos hp1, ← Hjs.out]; rfl
        have W := fun A h hb => Write_text w.heap.size (bigT (ls.take k)) (40 :: (js ++ [41])) A h (by have := HT.out k hk; omega) (by simp; omega) hb
        rw [← cat_eq] at W
        clear hl hlm
        go_wp2_with (first
          | (go_at_call 27; refine (J _ hsl).mono ?_; rintro e w3 ⟨rfl, hb3⟩; have hI3 := IsB.below hI hb3; have hss3 := hss.kp (Kp.below hb3) (M := w.heap.size) (by omega); have hs3 := hb3.size; have hsB := hB.size)
          | (go_at_call 26; refine (W _ hI3 (by omega)).mono ?_; rintro e w4 ⟨x, rfl, hI4, hb4, hk4⟩))
        go_roundw
        case rel =>
          refine ⟨k + 1, by go_num, by omega, ?_, hss3.ok hk4 (by omega), (Below.next hB hb3).trans hb4⟩
          rw [HN.out]; exact hI4
        case measure => simp [intOf]; omega
      · have hd : decide ((1 : Int) < (p : Int)) = false := decide_eq_false (by omega)
        have HN : Hid (bigT (ls.take (k + 1)) = bigT (ls.take k)) := by
          show bigT (ls.take (k + 1)) = _
          rw [HTk.out, bigT_more, Hp.out, if_neg hp1, List.append_nil]
        clear hl hlm hsl
        go_wp2
        go_roundw
        case rel =>
          refine ⟨k + 1, by go_num, by omega, ?_, hss, hB⟩
          rw [HN.out]; exact hI
        case measure => simp [intOf]; omega
    · obtain rfl : k = r := by omega
      have hkd : decide ((k : Int) < (k : Int)) = false := by simp
      have L := Builder_Len_f w.heap.size w.heap.size _ wr hI
      rw [Lib.byteCells_length] at L
      have S := Builder_String_any_k w.heap.size w.heap.size _ wr hI hB.size
      obtain ⟨t, Ht⟩ : ∃ t, Hid (bigT (ls.take k) = t) := ⟨_, rfl⟩
      have HE2 := HE.out
      rw [Ht.out] at L S HE2
      by_cases h0 : t = []
      · rw [if_pos h0] at HE2
        subst h0 HE2
        have hd : (((([] : List UInt8).length : Nat) : Int) == 0) = true := by simp
        go_wp2_with (first
          | (go_at_call 28; refine L.mono ?_; rintro e w3 ⟨rfl, hw⟩; replace hw := hw.symm; subst hw))
        go_ret
        exact ⟨rfl, hB⟩
      · rw [if_neg h0] at HE2
        subst HE2
        have hd : ((goal.length : Int) == 0) = false := by
          have := List.length_pos_iff.2 h0
          simp; exact h0
        go_wp2_with (first
          | (go_at_call 28; refine L.mono ?_; rintro e w3 ⟨rfl, hw⟩; replace hw := hw.symm; subst hw)
          | (go_at_call 29; refine S.mono ?_; rintro e w4 ⟨rfl, _, hb4, _⟩))
        go_ret
        exact ⟨rfl, hB.trans hb4⟩

theorem Cycles_bad (l : List Int) (v : Value) (w : World) (hl : Sl w v l) (hll : l.length ≤ maxLen) (z : Int) (hz : pF l = z) (h0 : z ≠ 0) :
    Calls Tryd.prog 6 #[v] w fun e w' => e = .returned (.tuple #[.string ⟨#[]⟩, .int .i64 z]) ∧ Below w.heap.size w w' := by
  have C := Check_any l v w hl hll
  rw [hz] at C
  have hd : (z != 0) = true := by simpa using h0
  clear hz h0
  obtain ⟨a, cap, rfl, _⟩ := hl
  go_enter Tryd.func6, Tryd.ntmps6
  go_wp2_with (first
    | (go_at_call 14; refine C.mono ?_; rintro e w1 ⟨rfl, hb⟩))
  exact bodyPost_ret (v := .tuple #[.string ⟨#[]⟩, .int .i64 z]) (by simp [results, Tryd.results6, go_sem]) rfl ⟨rfl, hb⟩
theorem Cycles_ok (n : Nat) (f : Nat → Nat) (v : Value) (w : World) (hn : n ≤ 12) (hv : Sl w v (pl n f)) (P : Pm n f) :
    Calls Tryd.prog 6 #[v] w fun e w' => e = .returned (.tuple #[.string ⟨(permT n f).toArray⟩, .int .i64 0]) ∧ Below w.heap.size w w' := by
  have C := Check_any _ v w hv (by rw [pl_len]; unfold maxLen; omega)
  rw [pF_pl P hn] at C
  have C2 := fun W (h : Below w.heap.size w W) => write_any n f v W hn (hv.below h) P
  obtain ⟨t, Ht⟩ : ∃ t, Hid (permT n f = t) := ⟨_, rfl⟩
  rw [Ht.out] at C2 ⊢
  obtain ⟨a, ca, hve⟩ : ∃ a c, v = .slice a n c := by obtain ⟨a, c, e, _⟩ := hv; rw [pl_len] at e; exact ⟨a, c, e⟩
  subst hve
  clear hv P
  go_enter Tryd.func6, Tryd.ntmps6
  go_wp2_with (first
    | (go_at_call 14; refine C.mono ?_; rintro e w1 ⟨rfl, hb1⟩)
    | (go_at_call 15; refine (C2 _ hb1).mono ?_; rintro e w2 ⟨rfl, hb2⟩))
  exact bodyPost_ret (v := .tuple #[.string ⟨t.toArray⟩, .int .i64 0]) (by simp [results, Tryd.results6, go_sem]) rfl ⟨rfl, Below.next hb1 hb2⟩

end Go.Proofs.YteocfkkdjejgdaaDoor
