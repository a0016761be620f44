/- What the library's tables hold; the walk of split. -/
import Derived.Test.YteocfkkdjejgdaaDoorPSh
import Derived.Test.YteocfkkdjejgdaaDoorPRead
import Derived.Test.YteocfkkdjejgdaaDoorP38
import Derived.Test.YteocfkkdjejgdaaDoorPW
namespace Go.Proofs.YteocfkkdjejgdaaDoor
open Go.RowKit

/-- What the library's variables hold. -/
structure LK (w : World) : Prop where
  m : ∃ m, w.cell? ⟨2, 0, none⟩ = some (.int .i64 m)
  sp : Lib.TabIs Tryd.prog w "strings.asciiSpace" .u8 Lib.asciiSpaceTab
  wh : Lib.WhiteTab 1 w
  es : ∃ ev, w.cell? ⟨3, 0, none⟩ = some ev ∧ (ev = .nilIface ∨ ∃ te pe, ev = .iface te pe)
  er : ∃ ev, w.cell? ⟨4, 0, none⟩ = some ev ∧ (ev = .nilIface ∨ ∃ te pe, ev = .iface te pe)
theorem gSp : Tryd.prog.globalNamed "strings.asciiSpace" = some 0 := by kernel_rfl
theorem LK.below {w w' : World} (h : LK w) (hb : Below w.heap.size w w') : LK w' := by
  have key : ∀ {g : Nat} {v : Value}, w.cell? ⟨g, 0, none⟩ = some v → w'.cell? ⟨g, 0, none⟩ = some v := fun {g v} hc => by
    rw [hb.cell (p := ⟨g, 0, none⟩) (by simpa using block_lt_of_cell hc)]; exact hc
  refine ⟨?_, ?_, WhiteTab_below h.wh hb, ?_, ?_⟩
  · obtain ⟨m, hm⟩ := h.m; exact ⟨m, key hm⟩
  · have hc := h.sp
    have h0 : 0 < w.heap.size := by
      have := hc.cell gSp 0 (by rw [Lib.asciiSpaceTab_length]; omega)
      simpa using block_lt_of_cell this
    unfold Lib.TabIs World.var? at hc ⊢
    rw [gSp] at hc ⊢
    simp only [Option.bind_some] at hc ⊢
    rw [hb.block 0 h0]
    exact hc
  · obtain ⟨m, hm, h2⟩ := h.es; exact ⟨m, key hm, h2⟩
  · obtain ⟨m, hm, h2⟩ := h.er; exact ⟨m, key hm, h2⟩

theorem fieldsGoD_words : ∀ (f : Nat) (cur l : List UInt8), (∀ x ∈ Lib.fieldsGoD f cur l, x.length ≤ cur.length + l.length) ∧ (Lib.fieldsGoD f cur l).length ≤ f + 1
  | 0, cur, l => by
    have e : Lib.fieldsGoD 0 cur l = if cur = [] then [] else [cur] := rfl
    rw [e]
    by_cases h : cur = []
    · rw [if_pos h]; exact ⟨fun x hx => (by cases hx), by simp⟩
    · rw [if_neg h]; exact ⟨fun x hx => by simp at hx; subst hx; omega, by simp⟩
  | f + 1, cur, l => by
    have hc : (∀ x ∈ (if cur = [] then [] else [cur]), x.length ≤ cur.length) ∧ (if cur = [] then [] else [cur]).length ≤ 1 := by
      by_cases h : cur = []
      · rw [if_pos h]; exact ⟨fun x hx => (by cases hx), by simp⟩
      · rw [if_neg h]; exact ⟨fun x hx => by simp at hx; subst hx; omega, by simp⟩
    unfold Lib.fieldsGoD
    split
    · exact ⟨fun x hx => by have := hc.1 x hx; omega, by have := hc.2; omega⟩
    · split
      · have ih := fieldsGoD_words f [] (l.drop (Lib.decodeL l).2)
        refine ⟨fun x hx => ?_, ?_⟩
        · rcases List.mem_append.1 hx with hx | hx
          · have := hc.1 x hx; omega
          · have := ih.1 x hx
            rw [List.length_drop, List.length_nil] at this; omega
        · rw [List.length_append]; have := hc.2; have := ih.2; omega
      · have ih := fieldsGoD_words f (cur ++ l.take (Lib.decodeL l).2) (l.drop (Lib.decodeL l).2)
        refine ⟨fun x hx => ?_, by have := ih.2; omega⟩
        have := ih.1 x hx
        rw [List.length_append, List.length_take, List.length_drop] at this; omega
theorem fieldsD_words (l : List UInt8) : (∀ x ∈ Lib.fieldsD l, x.length ≤ l.length) ∧ (Lib.fieldsD l).length ≤ l.length + 2 := by
  have := fieldsGoD_words (l.length + 1) [] l
  exact ⟨fun x hx => by have h := this.1 x hx; simp at h; exact h, this.2⟩

theorem Atoi_yes (n : Nat) (s : List UInt8) (x : Nat) (hs : s.length ≤ 2000) (h : wordV n s = some x) (w : World) :
    Calls Tryd.prog 40 #[.string ⟨s.toArray⟩] w fun e w' => e = .returned (.tuple #[.int .i64 (x : Int), .nilIface]) ∧ Below w.heap.size w w' := by
  unfold wordV at h
  split at h
  · rename_i v hv
    split at h
    · cases h
      rename_i hb
      refine (strconv_Atoi_ok ⟨s.toArray⟩ (by show s.toArray.size ≤ _; simp; omega) v (by simpa using hv) w).mono ?_
      rintro e w' ⟨rfl, hw⟩
      refine ⟨by rw [Int.toNat_of_nonneg hb.1], ?_⟩
      rcases hw with rfl | ⟨t, rfl⟩
      · exact Below.refl _ _
      · exact Lib.bytesWorld_below _ _ _
    · cases h
  · cases h
theorem Atoi_no (n : Nat) (s : List UInt8) (hs : s.length ≤ 2000) (h : wordV n s = none) (w : World) (hL : LK w) :
    Calls Tryd.prog 40 #[.string ⟨s.toArray⟩] w fun e w' => ∃ z ev, e = .returned (.tuple #[.int .i64 z, ev]) ∧ ((ev = .nilIface ∧ decide (z < 0) = true) ∨ (ev = .nilIface ∧ decide (z < 0) = false ∧ decide ((n : Int) ≤ z) = true) ∨ ∃ N, ev = .iface 93 (.pointer (some ⟨N, 0, none⟩))) ∧ Below w.heap.size w w' := by
  have hsz : (⟨s.toArray⟩ : ByteArray).size ≤ 2000 := by show s.toArray.size ≤ _; simp; omega
  unfold wordV at h
  cases hv : Lib.atoiAll s with
  | ok v =>
    rw [hv] at h
    simp only at h
    split at h
    · cases h
    · rename_i hb
      refine (strconv_Atoi_ok ⟨s.toArray⟩ (by omega) v (by simpa using hv) w).mono ?_
      rintro e w' ⟨rfl, hw⟩
      refine ⟨v, _, rfl, ?_, ?_⟩
      · by_cases h0 : v < 0
        · exact .inl ⟨rfl, decide_eq_true h0⟩
        · exact .inr (.inl ⟨rfl, decide_eq_false h0, decide_eq_true (by omega)⟩)
      rcases hw with rfl | ⟨t, rfl⟩
      · exact Below.refl _ _
      · exact Lib.bytesWorld_below _ _ _
  | «syntax» =>
    obtain ⟨ev, h1, h2⟩ := hL.es
    refine (strconv_Atoi_syntax ⟨s.toArray⟩ (by omega) (by simpa using hv) ev w h1 h2).mono ?_
    rintro e w' ⟨N, rfl, _, _, hb⟩
    exact ⟨_, _, rfl, .inr (.inr ⟨N, rfl⟩), hb⟩
  | range =>
    obtain ⟨ev, h1, h2⟩ := hL.er
    refine (strconv_Atoi_range ⟨s.toArray⟩ (by omega) (by simpa using hv) ev w h1 h2).mono ?_
    rintro e w' ⟨N, rfl, _, _, hb⟩
    exact ⟨_, _, rfl, .inr (.inr ⟨N, rfl⟩), hb⟩

theorem Fields_row (s : List UInt8) (hs : s.length ≤ 1000) (w : World) (hL : LK w) :
    Calls Tryd.prog 39 #[.string ⟨s.toArray⟩] w fun e w' => ∃ A, e = .returned (.slice (some ⟨A, 0, none⟩) (Lib.fieldsD s).length (Lib.fieldsD s).length) ∧ OwnS w' A (Lib.fieldsD s).length (fun j => (Lib.fieldsD s).getD j []) ∧ w.heap.size ≤ A ∧ Below w.heap.size w w' := by
  refine (strings_Fields_any ⟨s.toArray⟩ w (by show s.toArray.size < _; simp; omega) hL.sp hL.wh).mono ?_
  rintro e w' ⟨A, rfl, hA, hown, hb⟩
  refine ⟨A, rfl, ?_, hA, hb⟩
  have hown : w'.ownsRow w.heap.size 9 1 (.slice (some ⟨A, 0, none⟩) (Lib.fieldsD s).length (Lib.fieldsD s).length) (Lib.fieldsD s).length ((Lib.fieldsD s).map fun x => Value.string ⟨x.toArray⟩) := hown
  obtain ⟨_, ⟨h1, _⟩ | ⟨g', cap, cur, e, hbb, hg, h2, h3, h4, ht⟩⟩ := hown
  · cases h1
  · cases e
    refine ⟨cur, hg, fun j hj => ?_⟩
    have e2 : (cur.toList.take ((Lib.fieldsD s).length * 1))[j]? = ((Lib.fieldsD s).map fun x => Value.string ⟨x.toArray⟩)[j]? := by rw [ht]
    rw [List.getElem?_take, if_pos (by omega)] at e2
    rw [← Array.getElem?_toList, e2]
    simp [List.getD_eq_getElem?_getD, hj]
theorem OwnS.below {w w' : World} {g n : Nat} {f : Nat → List UInt8} (h : OwnS w g n f) (hb : Below w.heap.size w w') : OwnS w' g n f := by
  have hl := h.lt
  obtain ⟨cur, h, hc⟩ := h
  exact ⟨cur, (hb.block g hl).trans h, hc⟩
theorem drop_get {ws : List (List UInt8)} {k : Nat} (h : k < ws.length) : ws.drop k = ws.getD k [] :: ws.drop (k + 1) := by
  rw [List.drop_eq_getElem_cons h]; simp [List.getD_eq_getElem?_getD, h]

/-- What split comes to. -/
def SplIs (w : World) (e : Ending) (w' : World) : Option (List Nat) → Prop
  | none => e = .returned (.tuple #[.slice none 0 0, .bool false])
  | some c => ∃ x, e = .returned (.tuple #[x, .bool true]) ∧ w'.ownsRow w.heap.size 3 1 x c.length (vl c)
set_option maxRecDepth 100000 in
set_option maxHeartbeats 2000000 in
theorem split_any (n : Nat) (s : List UInt8) (hs : s.length ≤ 1000) (w : World) (hL : LK w) :
    Calls Tryd.prog 31 #[.string ⟨s.toArray⟩, .int .i64 (n : Int)] w fun e w' => SplIs w e w' (wordsV n (Lib.fieldsD s)) ∧ Below w.heap.size w w' := by
  obtain ⟨i3, hi, hz0, hz1, hz2⟩ := info3
  have C := Fields_row s hs w hL
  obtain ⟨ws, Hws⟩ : ∃ ws, Hid (Lib.fieldsD s = ws) := ⟨_, rfl⟩
  have hfw := fieldsD_words s
  rw [Hws.out] at C hfw ⊢
  obtain ⟨r, Hr⟩ : ∃ r, Hid (ws.length = r) := ⟨_, rfl⟩
  have hr : r ≤ 1002 := by rw [← Hr.out]; omega
  rw [Hr.out] at C
  have HW : Hid (∀ k, k < r → (ws.getD k []).length ≤ 2000) := fun k hk => by
    have hk' : k < ws.length := by rw [Hr.out]; exact hk
    have := hfw.1 (ws.getD k []) (by simp [List.getD_eq_getElem?_getD, hk'])
    omega
  obtain ⟨Z, HZ⟩ : ∃ Z, Hid (wordsV n ws = Z) := ⟨_, rfl⟩
  rw [HZ.out]
  have HL : Hid (LK w) := hL
  clear hfw hL
  go_enter Tryd.func31, Tryd.ntmps31
  go_wp2_with (first
    | (go_at_call 39; refine C.mono ?_; rintro e w2 ⟨A, rfl, hO2, hA, hb2⟩))
  have HL2 : Hid (LK w2) := HL.out.below hb2
  go_loopw [6, 14] (fun ov iv wr => ∃ (k : Nat) (ys : List Nat), iv = .int .i64 k ∧ k ≤ r ∧ wr.ownsRow w2.heap.size 3 1 ov k (vl ys) ∧ Hid (ys.length = k) ∧ Hid ((wordsV n (ws.drop k)).map (ys ++ ·) = Z) ∧ Below w2.heap.size w2 wr) (fun _ iv _ => (r - intOf iv).toNat)
  case atStart =>
    refine ⟨0, [], rfl, by omega, World.ownsRow_nil _ _ _ _, (rfl : ([] : List Nat).length = 0), ?_, Below.refl _ _⟩
    show (wordsV n (ws.drop 0)).map ([] ++ ·) = Z
    rw [List.drop_zero, HZ.out]
    cases Z <;> rfl
  case round =>
    obtain ⟨k, ys, rfl, hk, hown, HY, HM, hB⟩ := hrel
    have hsB := hB.size
    by_cases hlt : k < r
    · have hki : (k : Int) < r := by omega
      have hdec : decide ((k : Int) < r) = true := decide_eq_true hki
      have hcell := (hO2.below hB).cell k hlt
      have HD : Hid (ws.drop k = ws.getD k [] :: ws.drop (k + 1)) := drop_get (by rw [Hr.out]; exact hlt)
      have hwl := HW.out k hlt
      obtain ⟨t, Ht⟩ : ∃ t, Hid (ws.getD k [] = t) := ⟨_, rfl⟩
      rw [Ht.out] at hcell HD hwl
      have HMo := HM.out
      rw [HD.out, wordsV] at HMo
      cases hwv : wordV n t with
      | none =>
        rw [hwv] at HMo
        have D := fun A h => Atoi_no n t hwl hwv A h
        obtain rfl : (none : Option (List Nat)) = Z := HMo
        have hLr := HL2.out.below hB
        clear HM
        go_wp2_with (first
          | (go_at_call 40; refine (D _ hLr).mono ?_; rintro e w3 ⟨z, ev, rfl, hev, hb3⟩; rcases hev with ⟨rfl, hy0⟩ | ⟨rfl, hy0, hy1⟩ | ⟨N, rfl⟩))
        all_goals exact bodyPost_ret (v := .tuple #[.slice none 0 0, .bool false]) (by simp [results, Tryd.results31, go_sem]) rfl ⟨rfl, Below.next hb2 (Below.next hB hb3)⟩
      | some x =>
        rw [hwv] at HMo
        have hxn := wordV_lt hwv
        have D := fun A => Atoi_yes n t x hwl hwv A
        have HM2 : Hid ((wordsV n (ws.drop (k + 1))).map ((ys ++ [x]) ++ ·) = Z) := by
          show (wordsV n (ws.drop (k + 1))).map ((ys ++ [x]) ++ ·) = Z
          rw [← HMo, Option.map_map]
          congr 1
          funext c
          simp
        have hd0 : decide ((x : Int) < 0) = false := decide_eq_false (by omega)
        have hd1 : decide ((n : Int) ≤ (x : Int)) = false := decide_eq_false (by omega)
        clear HM HMo
        go_wp2_with (first
          | (go_at_call 40; refine (D _).mono ?_; rintro e w3 ⟨rfl, hb3⟩; have hown3 := own_below hown hb3; have hs3 := hb3.size)
          | (at_builtin; refine wpList_append_own _ rfl _ _ 22 rfl w2.heap.size 3 i3 (.int .i64 0) 1 8 und22 hi hz0 hz1 hz2 rfl (by decide) _ _ _ rfl (hown3.alloc _) ⟨w3.heap.size, 0, none⟩ 1 1 [.int .i64 (x : Int)] rfl rfl ?c1 ?c2 ?c3 ?c4 ?c5 ?_))
        case c1 =>
          intro j u hj
          match j, hj with
          | 0, hj => simp at hj; subst hj; simp [Addr.add]
        case c2 => intro u hu; simp at hu; subst hu; rfl
        case c3 => unfold maxLen; omega
        case c4 => omega
        case c5 => simp; omega
        intro v' w4 hown4 hgrow _
        have hU4 : Below w2.heap.size w3 w4 := ((Below.refl _ _).alloc (by omega) _).grown hgrow (by simp; omega) (fun k hk => (hown3.lt k hk).1)
        go_wp2
        go_roundw
        case rel =>
          refine ⟨k + 1, ys ++ [x], by go_num, by omega, ?_, ?_, HM2, (Below.next hB hb3).trans hU4⟩
          · rw [vl_append]; exact hown4
          · show (ys ++ [x]).length = k + 1
            rw [List.length_append, HY.out]; rfl
        case measure => simp [intOf]; omega
    · obtain rfl : k = r := by omega
      have hkd : decide ((k : Int) < (k : Int)) = false := by simp
      have hZ : Z = some ys := by
        rw [← HM.out, List.drop_of_length_le (by rw [Hr.out]; exact Nat.le_refl _), wordsV]
        simp
      subst hZ
      go_wp2
      refine bodyPost_ret (v := .tuple #[_, .bool true]) (by simp [results, Tryd.results31, go_sem]; rfl) rfl ⟨⟨_, rfl, ?_⟩, Below.next hb2 hB⟩
      rw [HY.out]
      obtain ⟨h1, h2 | ⟨g, cap, cur, h3, h4, h5⟩⟩ := hown
      · exact ⟨h1, .inl h2⟩
      · exact ⟨h1, .inr ⟨g, cap, cur, h3, by have := hb2.size; omega, h5⟩⟩

end Go.Proofs.YteocfkkdjejgdaaDoor
