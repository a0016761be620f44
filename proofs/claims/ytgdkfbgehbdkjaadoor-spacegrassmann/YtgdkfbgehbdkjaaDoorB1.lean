/- Rows of one's own in blocks of their own; the walks of the library's Clone and IndexFunc at rows, and of lead. -/
import Derived.Test.YtgdkfbgehbdkjaaDoorA5
namespace Go.Proofs.YtgdkfbgehbdkjaaDoor
open Go.RowKit

def swpI (A : Nat → Nat → Int) (a k : Nat) : Nat → Nat → Int := fun i => if i = a then A k else if i = k then A a else A i
/-! ### Rows in memory -/
/-- Block g holds R slices, each of a row of its own of n numbers. -/
structure Mat (w : World) (base g R n : Nat) (B cp : Nat → Nat) (A : Nat → Nat → Int) : Prop where
  out : ∃ cur, w.heap[g]? = some (.cells cur 22 (0, 0)) ∧ ∀ i, i < R → cur[i]? = some (.slice (some ⟨B i, 0, none⟩) n (cp i))
  row : ∀ i, i < R → Own w (B i) n (A i)
  sep : ∀ i j, i < R → j < R → B i = B j → i = j
  lo : ∀ i, i < R → base ≤ B i ∧ B i ≠ g
theorem Mat.hd {w : World} {base g R n : Nat} {B cp : Nat → Nat} {A : Nat → Nat → Int} (h : Mat w base g R n B cp A) {i : Nat} (hi : i < R) : w.cell? ⟨g, i, none⟩ = some (.slice (some ⟨B i, 0, none⟩) n (cp i)) := by
  obtain ⟨cur, h1, h2⟩ := h.out
  rw [cell_of_row w g i _ _ _ h1, h2 i hi]
theorem Mat.hdf {w : World} {base g R n : Nat} {B cp : Nat → Nat} {A : Nat → Nat → Int} (h : Mat w base g R n B cp A) (i : Nat) : w.frozen? ⟨g, i, none⟩ = false := by
  obtain ⟨cur, h1, _⟩ := h.out
  exact frozen_of_row w g i _ _ h1
theorem Mat.cell {w : World} {base g R n : Nat} {B cp : Nat → Nat} {A : Nat → Nat → Int} (h : Mat w base g R n B cp A) {i j : Nat} (hi : i < R) (hj : j < n) : w.cell? ⟨B i, j, none⟩ = some (.int .i64 (A i j)) := (h.row i hi).cell j hj
theorem Mat.frozen {w : World} {base g R n : Nat} {B cp : Nat → Nat} {A : Nat → Nat → Int} (h : Mat w base g R n B cp A) {i : Nat} (hi : i < R) (j : Nat) : w.frozen? ⟨B i, j, none⟩ = false := (h.row i hi).frozen j
theorem Mat.congr {w : World} {base g R n : Nat} {B cp : Nat → Nat} {A A' : Nat → Nat → Int} (h : Mat w base g R n B cp A) (e : ∀ i j, i < R → j < n → A i j = A' i j) : Mat w base g R n B cp A' :=
  ⟨h.out, fun i hi => (h.row i hi).congr (fun j hj => e i j hi hj), h.sep, h.lo⟩
theorem Mat.drew {w : World} {base g R n : Nat} {B cp : Nat → Nat} {A : Nat → Nat → Int} (h : Mat w base g R n B cp A) : Mat w.drew base g R n B cp A := ⟨h.out, h.row, h.sep, h.lo⟩
theorem Mat.glt {w : World} {base g R n : Nat} {B cp : Nat → Nat} {A : Nat → Nat → Int} (h : Mat w base g R n B cp A) : g < w.heap.size := by
  obtain ⟨cur, h1, _⟩ := h.out
  exact (Array.getElem?_eq_some_iff.1 h1).1
theorem Mat.set {w : World} {base g R n : Nat} {B cp : Nat → Nat} {A : Nat → Nat → Int} (h : Mat w base g R n B cp A) {i : Nat} (hi : i < R) (j : Nat) (v : Int) :
    Mat (w.setCell ⟨B i, j, none⟩ (.int .i64 v)) base g R n B cp (fun r => if r = i then upd (A r) j v else A r) := by
  obtain ⟨cur, h1, h2⟩ := h.out
  refine ⟨⟨cur, (heap_setCell_other w _ g _ (fun e => (h.lo i hi).2 e.symm)).trans h1, h2⟩, fun r hr => ?_, h.sep, h.lo⟩
  by_cases e : r = i
  · subst e
    rw [if_pos rfl]
    exact (h.row r hr).set j v
  · rw [if_neg e]
    exact (h.row r hr).other _ _ (fun e' => e (h.sep r i hr hi e'))
/-- Blocks that stay as they were. -/
theorem Mat.kept {w w' : World} {base g R n : Nat} {B cp : Nat → Nat} {A : Nat → Nat → Int} (h : Mat w base g R n B cp A) (hk : ∀ k, (k = g ∨ ∃ i, i < R ∧ k = B i) → w'.heap[k]? = w.heap[k]?) : Mat w' base g R n B cp A := by
  obtain ⟨cur, h1, h2⟩ := h.out
  refine ⟨⟨cur, (hk g (.inl rfl)).trans h1, h2⟩, fun i hi => ?_, h.sep, h.lo⟩
  obtain ⟨c, h3, h4⟩ := h.row i hi
  exact ⟨c, (hk _ (.inr ⟨i, hi, rfl⟩)).trans h3, h4⟩
theorem Mat.swap {w : World} {base g R n : Nat} {B cp : Nat → Nat} {A : Nat → Nat → Int} (h : Mat w base g R n B cp A) {a k : Nat} (ha : a < R) (hk : k < R) :
    Mat ((w.setCell ⟨g, a, none⟩ (.slice (some ⟨B k, 0, none⟩) n (cp k))).setCell ⟨g, k, none⟩ (.slice (some ⟨B a, 0, none⟩) n (cp a))) base g R n
      (fun i => if i = a then B k else if i = k then B a else B i) (fun i => if i = a then cp k else if i = k then cp a else cp i) (swpI A a k) := by
  obtain ⟨cur, h1, h2⟩ := h.out
  have hB : ∀ i, i < R → ∃ i', i' < R ∧ (if i = a then B k else if i = k then B a else B i) = B i' ∧ swpI A a k i = A i' ∧ (i = a ∧ i' = k ∨ i ≠ a ∧ i = k ∧ i' = a ∨ i ≠ a ∧ i ≠ k ∧ i' = i) := by
    intro i hi
    unfold swpI
    by_cases e1 : i = a
    · exact ⟨k, hk, by rw [if_pos e1], by rw [if_pos e1], .inl ⟨e1, rfl⟩⟩
    · by_cases e2 : i = k
      · exact ⟨a, ha, by rw [if_neg e1, if_pos e2], by rw [if_neg e1, if_pos e2], .inr (.inl ⟨e1, e2, rfl⟩)⟩
      · exact ⟨i, hi, by rw [if_neg e1, if_neg e2], by rw [if_neg e1, if_neg e2], .inr (.inr ⟨e1, e2, rfl⟩)⟩
  refine ⟨⟨_, heap_setCell_same _ _ _ _ _ _ (heap_setCell_same _ _ _ _ _ _ h1), fun i hi => ?_⟩, fun i hi => ?_, fun i j hi hj e => ?_, fun i hi => ?_⟩
  · have hs : i < cur.size := (Array.getElem?_eq_some_iff.1 (h2 i hi)).1
    rw [Array.getElem?_setIfInBounds, Array.getElem?_setIfInBounds]
    by_cases e2 : k = i
    · subst e2
      rw [if_pos rfl, if_pos (by simp [hs])]
      by_cases e1 : k = a
      · subst e1; simp
      · simp [e1]
    · rw [if_neg e2]
      by_cases e1 : a = i
      · subst e1; rw [if_pos rfl, if_pos hs]; simp
      · rw [if_neg e1, h2 i hi]; simp [Ne.symm e1, Ne.symm e2]
  · obtain ⟨i', hi', e1, e2, _⟩ := hB i hi
    rw [e1, e2]
    exact ((h.row i' hi').other _ _ (h.lo i' hi').2).other _ _ (h.lo i' hi').2
  · obtain ⟨i', hi', e1, _, c1⟩ := hB i hi
    obtain ⟨j', hj', e2, _, c2⟩ := hB j hj
    have e' : (if i = a then B k else if i = k then B a else B i) = (if j = a then B k else if j = k then B a else B j) := e
    rw [e1, e2] at e'
    have := h.sep i' j' hi' hj' e'
    omega
  · obtain ⟨i', hi', e1, _, _⟩ := hB i hi
    show base ≤ (if i = a then B k else if i = k then B a else B i) ∧ (if i = a then B k else if i = k then B a else B i) ≠ g
    rw [e1]
    exact h.lo i' hi'
theorem ownsRow_other {w : World} {base n : Nat} {e : TypeId} {size : Nat} {v : Value} {xs : List Value} (h : w.ownsRow base e size v n xs) (a : Addr) (u : Value) (hb : a.block < base) : (w.setCell a u).ownsRow base e size v n xs := by
  obtain ⟨h1, h2 | ⟨g, cap, cur, h3, h4, h5, h6⟩⟩ := h
  · exact ⟨h1, .inl h2⟩
  · exact ⟨h1, .inr ⟨g, cap, cur, h3, h4, (heap_setCell_other w a g u (by omega)).trans h5, h6⟩⟩


set_option maxRecDepth 100000 in
set_option maxHeartbeats 2000000 in
/-- A copy of a row that has one element or more. -/
theorem CloneI_any (l : List Int) (v : Value) (w : World) (hv : Sl w v l) (h0 : 1 ≤ l.length) (hl : l.length ≤ 99) :
    Calls Tryd.prog 48 #[v] w fun e w' => ∃ y, e = .returned y ∧ w'.ownsRow w.heap.size 3 1 y l.length (l.map (Value.int .i64)) ∧ Below w.heap.size w w' := by
  obtain ⟨i3, ti, tz0, tz1, tz2⟩ := info3
  obtain ⟨b, off, cap, rfl, hb, hc⟩ := hv.form rfl (by omega)
  have q22 : ∀ (w : World) (a : Option Addr) (n c : Nat), (binOp .eql 22 (.slice a n c) (.slice none 0 0)).run Tryd.prog w = .ok (.bool a.isNone) w := fun w a n c => by
    have h := run_equal_slice_nil (P := Tryd.prog) w 22 3 a n c und22
    simp only [binOp]
    simp [h]
  obtain ⟨n, Hn⟩ : ∃ n, Hid (l.length = n) := ⟨_, rfl⟩
  rw [Hn.out] at hl h0 ⊢
  have HN : Hid (∀ (j : Nat) (u : Value), (l.map (Value.int .i64))[j]? = some u → (w.alloc (.cells #[] 3)).cell? (Addr.add ⟨b, off, none⟩ j) = some u) := fun j u hj => by
    have hjl : j < l.length := by have := (List.getElem?_eq_some_iff.1 hj).1; simpa using this
    have h := hc j hjl
    rw [Addr.add_mid, (balloc w (.cells #[] 3)).cell (p := ⟨b, off + j, none⟩) hb, h]
    simpa [hjl] using hj
  clear hc
  go_enter Tryd.func48, Tryd.ntmps48
  go_wp2_with (first
    | (at_builtin; refine wpList_append_own _ rfl _ _ 22 rfl w.heap.size 3 i3 (.int .i64 0) 1 8 und22 ti tz0 tz1 tz2 rfl (by decide) _ 0 [] rfl ?o1 ⟨b, off, none⟩ n _ (l.map (Value.int .i64)) rfl (by simpa using Hn.out) ?o2 ?o3 ?o4 ?o5 ?o6 ?_)
    | go_in)
  case o1 => exact ⟨rfl, .inr ⟨w.heap.size, 0, #[], rfl, Nat.le_refl _, heap_alloc_new w _, Nat.le_refl _, by unfold maxLen; omega, rfl, rfl⟩⟩
  case o2 => exact HN.out
  case o3 => intro u hu; obtain ⟨z, _, rfl⟩ := List.mem_map.1 hu; rfl
  case o4 => unfold maxLen; omega
  case o5 => omega
  case o6 => simp
  intro v' w' hO hg _
  have hB : Below w.heap.size w w' := (balloc w (.cells #[] 3)).grown hg (by simp) (fun j hj => by cases hj; exact Nat.le_refl _)
  have HO : Hid (w'.ownsRow w.heap.size 3 1 v' n (l.map (Value.int .i64))) := hO
  clear hO hg q22
  go_wp2
  go_ret
  exact ⟨_, rfl, HO.out, hB⟩
/-- The question that basis asks of a row. -/
theorem ask50 (c : Nat) (b : Nat) (r : List Int) (u : Value) (w : World) (hb : w.cell? ⟨b, 0, none⟩ = some (.int .i64 (c : Int))) (hu : Sl w u r) (hc : c < r.length) (_hr : r.length ≤ 99) :
    Calls Tryd.prog 50 #[u, .pointer (some ⟨b, 0, none⟩)] w fun e w' => e = .returned (.bool (r.getD c 0 != 0)) ∧ w' = w := by
  obtain ⟨a, cap, rfl, h⟩ := hu
  obtain ⟨b', off, rfl, hcc⟩ := h c hc
  have hci : (c : Int) < (r.length : Int) := by omega
  obtain ⟨x, Hx⟩ : ∃ x, Hid (r.getD c 0 = x) := ⟨_, rfl⟩
  rw [Hx.out] at hcc ⊢
  generalize r.length = n at *
  clear h
  go_enter Tryd.func50, Tryd.ntmps50
  go_wp2
  go_ret
  exact ⟨rfl, rfl⟩
/-- What IndexFunc tells of rows. -/
def IfIs (ls : List (List Int)) (p : List Int → Bool) (z : Int) : Prop :=
  (z = -1 ∧ ∀ (i : Nat) l, ls[i]? = some l → p l = false) ∨ ∃ (j : Nat) (l : List Int), z = (j : Int) ∧ ls[j]? = some l ∧ p l = true ∧ ∀ (i : Nat) l', i < j → ls[i]? = some l' → p l' = false
set_option maxRecDepth 100000 in
set_option maxHeartbeats 4000000 in
theorem IndexR_any (c b : Nat) (ls : List (List Int)) (v : Value) (w : World) (hb : w.cell? ⟨b, 0, none⟩ = some (.int .i64 (c : Int))) (hv : Rw w v ls) (hl : ls.length ≤ 99) (hc : ∀ l ∈ ls, c < l.length ∧ l.length ≤ 99) :
    Calls Tryd.prog 49 #[v, .func (.func 50) #[] #[.pointer (some ⟨b, 0, none⟩)]] w fun e w' => (∃ z : Int, e = .returned (.int .i64 z) ∧ IfIs ls (fun r => r.getD c 0 != 0) z) ∧ w' = w := by
  obtain ⟨a, cap, rfl, hr⟩ := hv
  have HR : Hid (∀ (i : Nat) l, ls[i]? = some l → ∃ b off u, a = some ⟨b, off, none⟩ ∧ w.cell? ⟨b, off + i, none⟩ = some u ∧ Sl w u l) := hr
  have HC : Hid (∀ l ∈ ls, ∀ u, Sl w u l → Calls Tryd.prog 50 #[u, .pointer (some ⟨b, 0, none⟩)] w fun e w' => e = .returned (.bool (l.getD c 0 != 0)) ∧ w' = w) := fun l hm u hs => ask50 c b l u w hb hs (hc l hm).1 (hc l hm).2
  obtain ⟨n, hn⟩ : ∃ n, n = ls.length := ⟨_, rfl⟩
  have HN : Hid (n = ls.length) := hn
  rw [← hn] at hl ⊢
  clear hr hn hb hc
  go_enter Tryd.func49, Tryd.ntmps49
  go_wp2
  go_loopw [5, 8] (fun _ i wr => ∃ j : Nat, i = .int .i64 (j : Int) ∧ j ≤ n ∧ Hid (∀ (t : Nat) l, t < j → ls[t]? = some l → (l.getD c 0 != 0) = false) ∧ wr = w) (fun _ i _ => (n - intOf i).toNat)
  case atStart => exact ⟨0, rfl, by omega, (fun t l h => by omega : ∀ t l, t < 0 → _), rfl⟩
  case round =>
    obtain ⟨j, rfl, hj, HJ, hw⟩ := hrel
    replace hw := hw.symm
    subst hw
    by_cases hlt : j < n
    · have hdj : decide ((j : Int) < (n : Int)) = true := by simp; omega
      have hji : (j : Int) < n := by omega
      have hj0 : (0 : Int) ≤ (j : Int) := by omega
      obtain ⟨l, hl'⟩ : ∃ l, ls[j]? = some l := ⟨ls[j]'(by rw [← HN.out]; exact hlt), by simp⟩
      obtain ⟨b', off, u, rfl, hcj, hs⟩ := HR.out j l hl'
      have D := HC.out l (List.mem_of_getElem? hl') u hs
      have HLJ : Hid (ls[j]? = some l) := hl'
      obtain ⟨ua, uc, rfl, _⟩ := id hs
      obtain ⟨ul, Hul⟩ : ∃ ul, Hid (l.length = ul) := ⟨_, rfl⟩
      rw [Hul.out] at D hcj
      clear hl' hs
      cases hq : (l.getD c 0 != 0) with
      | true =>
        rw [hq] at D
        have HM : Hid ((l.getD c 0 != 0) = true) := hq
        clear hq
        go_wp2_with (go_at_call 50; refine D.mono ?_; rintro e w1 ⟨rfl, h1⟩; replace h1 := h1.symm; subst h1)
        go_ret
        exact ⟨⟨_, rfl, .inr ⟨j, l, rfl, HLJ.out, HM.out, fun i l' hi h => HJ.out i l' hi h⟩⟩, rfl⟩
      | false =>
        rw [hq] at D
        have HJ2 : Hid (∀ (t : Nat) l, t < j + 1 → ls[t]? = some l → (l.getD c 0 != 0) = false) := fun t l' ht e => by
          by_cases et : t = j
          · subst et
            have := HLJ.out.symm.trans e
            cases this
            exact hq
          · exact HJ.out t l' (by omega) e
        clear hq HJ
        go_wp2_with (go_at_call 50; refine D.mono ?_; rintro e w1 ⟨rfl, h1⟩; replace h1 := h1.symm; subst h1)
        go_roundw
        case rel => exact ⟨j + 1, by go_num, by omega, HJ2, by first | rfl | trivial⟩
        case measure => simp [intOf]; omega
    · have hdj : decide ((j : Int) < (n : Int)) = false := by simp; omega
      obtain rfl : j = n := by omega
      go_wp2
      go_ret
      exact ⟨⟨_, rfl, .inl ⟨rfl, fun i l h => HJ.out i l (by rw [HN.out]; exact (List.getElem?_eq_some_iff.1 h).1) h⟩⟩, rfl⟩
theorem ask70 (x : Int) (w : World) : Calls Tryd.prog 70 #[.int .i64 x] w fun e w' => e = .returned (.bool (x != 0)) ∧ w' = w := by
  go_enter Tryd.func70, Tryd.ntmps70
  go_wp2
  go_ret
  exact ⟨rfl, rfl⟩
set_option maxRecDepth 100000 in
set_option maxHeartbeats 4000000 in
/-- Where a row begins that does. -/
theorem lead_any (r : List Nat) (v : Value) (w : World) (hv : Sl w v (r.map Int.ofNat)) (h0 : ldV r < r.length) (hl : r.length ≤ 99) :
    Calls Tryd.prog 52 #[v] w fun e w' => e = .returned (.int .i64 (ldV r : Int)) ∧ w' = w := by
  have C69 : Calls Tryd.prog 69 #[v, .func (.func 70) #[] #[]] w fun e w' => e = .returned (.int .i64 (ldV r : Int)) ∧ w' = w := by
    obtain ⟨a, cap, rfl, hr⟩ := hv
    have HR : Hid (∀ j, j < r.length → ∃ b off, a = some ⟨b, off, none⟩ ∧ w.cell? ⟨b, off + j, none⟩ = some (.int .i64 (r.getD j 0 : Int))) := fun j hj => by
      obtain ⟨b, off, e, h⟩ := hr j (by simpa using hj)
      refine ⟨b, off, e, ?_⟩
      rw [h]; simp [hj]
    have HL : Hid (∀ j, j < ldV r → r.getD j 0 = 0) := fun j h => ldV_lo h
    have HH : Hid (r.getD (ldV r) 0 ≠ 0) := ldV_hit h0
    rw [List.length_map]
    obtain ⟨k, Hk⟩ : ∃ k, Hid (ldV r = k) := ⟨_, rfl⟩
    rw [Hk.out] at HL HH h0 ⊢
    obtain ⟨n, hn⟩ : ∃ n, n = r.length := ⟨_, rfl⟩
    rw [← hn] at hl h0 HR ⊢
    clear hr hn
    go_enter Tryd.func69, Tryd.ntmps69
    go_wp2
    go_loopw [5, 8] (fun _ i wr => ∃ j : Nat, i = .int .i64 (j : Int) ∧ j ≤ k ∧ wr = w) (fun _ i _ => (n - intOf i).toNat)
    case atStart => exact ⟨0, rfl, by omega, rfl⟩
    case round =>
      obtain ⟨j, rfl, hj, hw⟩ := hrel
      replace hw := hw.symm
      subst hw
      have hdj : decide ((j : Int) < (n : Int)) = true := by simp; omega
      have hji : (j : Int) < n := by omega
      have hj0 : (0 : Int) ≤ (j : Int) := by omega
      obtain ⟨b', off, rfl, hcj⟩ := HR.out j (by omega)
      by_cases e : j = k
      · have hne := HH.out
        rw [← e] at hne
        have D := ask70 (r.getD j 0 : Int) w
        have hq : ((r.getD j 0 : Int) != 0) = true := by simpa using hne
        rw [hq] at D
        have HJK : Hid (j = k) := e
        obtain ⟨x, Hx⟩ : ∃ x, Hid ((r.getD j 0 : Int) = x) := ⟨_, rfl⟩
        rw [Hx.out] at hcj D
        clear e hne hq
        go_wp2_with (go_at_call 70; refine D.mono ?_; rintro e w1 ⟨rfl, h1⟩; replace h1 := h1.symm; subst h1)
        go_ret
        exact ⟨ret_int (by rw [HJK.out]), rfl⟩
      · have h2 := HL.out j (by omega)
        rw [h2] at hcj
        have D := ask70 0 w
        have hq : ((0 : Int) != 0) = false := by simp
        rw [hq] at D
        clear h2 hq
        go_wp2_with (go_at_call 70; refine D.mono ?_; rintro e w1 ⟨rfl, h1⟩; replace h1 := h1.symm; subst h1)
        go_roundw
        case rel => exact ⟨j + 1, by go_num, by omega, by first | rfl | trivial⟩
        case measure => simp [intOf]; omega
  go_enter Tryd.func52, Tryd.ntmps52
  go_wp2_with (go_at_call 69; refine C69.mono ?_; rintro e w1 ⟨rfl, h1⟩; replace h1 := h1.symm; subst h1)
  go_ret
  exact ⟨rfl, rfl⟩
end Go.Proofs.YtgdkfbgehbdkjaaDoor
