/- The walk of the document's triples. -/
import Derived.Test.YtgpkhfpejopacaaDoorDMe
/- Rows of rows of one's own. -/
namespace Go.Proofs.YtgpkhfpejopacaaDoor
open Go.RowKit

theorem undR : Tryd.prog.underlying 27 = some (.slice 22) := by kernel_rfl
theorem info36 : ∃ i, Tryd.prog.info? 22 = some i ∧ i.zero = some (.slice none 0 0) ∧ i.size = 1 ∧ i.bytes = 24 := by
  have h1 : (Tryd.prog.info? 22).map (·.zero) = some (some (.slice none 0 0)) := by kernel_rfl
  have h2 : (Tryd.prog.info? 22).map (·.size) = some 1 := by kernel_rfl
  have h3 : (Tryd.prog.info? 22).map (·.bytes) = some 24 := by kernel_rfl
  cases h : Tryd.prog.info? 22 with
  | none => rw [h] at h1; cases h1
  | some i =>
    rw [h] at h1 h2 h3
    exact ⟨i, rfl, Option.some.inj h1, Option.some.inj h2, Option.some.inj h3⟩
/-- A row of numbers of one's own. -/
def ORow (w : World) (base : Nat) (u : Value) (l : List Nat) : Prop := w.ownsRow base 3 1 u l.length ((l.map Int.ofNat).map (Value.int .i64))
theorem own_keep {w w' : World} {base n : Nat} {e : TypeId} {v : Value} {xs : List Value} (h : w.ownsRow base e 1 v n xs) (k : ∀ b, base ≤ b → b < w.heap.size → w'.heap[b]? = w.heap[b]?) : w'.ownsRow base e 1 v n xs := by
  obtain ⟨h3, h4 | ⟨g, cap, cur, h5, h6, h7, h8⟩⟩ := h
  · exact ⟨h3, .inl h4⟩
  · exact ⟨h3, .inr ⟨g, cap, cur, h5, h6, (k g h6 (Array.getElem?_eq_some_iff.1 h7).1).trans h7, h8⟩⟩
def OR (w : World) (base : Nat) (v : Value) (ls : List (List Nat)) : Prop :=
  ∃ vals : List Value, w.ownsRow base 22 1 v ls.length vals ∧ ∀ (i : Nat) (u : Value) (l : List Nat), vals[i]? = some u → ls[i]? = some l → ORow w base u l
theorem OR.nil (w : World) (base : Nat) : OR w base (.slice none 0 0) [] := ⟨[], World.ownsRow_nil _ _ _ _, fun i u l h _ => by simp at h⟩
theorem OR.keep {w w' : World} {base : Nat} {v : Value} {ls : List (List Nat)} (h : OR w base v ls) (k : ∀ b, base ≤ b → b < w.heap.size → w'.heap[b]? = w.heap[b]?) : OR w' base v ls := by
  obtain ⟨vals, h1, h2⟩ := h
  exact ⟨vals, own_keep h1 k, fun i u l hu hl => own_keep (h2 i u l hu hl) k⟩
theorem OR.below {w w' : World} {base : Nat} {v : Value} {ls : List (List Nat)} (h : OR w base v ls) (k : Below w.heap.size w w') : OR w' base v ls := h.keep fun b _ hb => k.block b hb
theorem ORow.below {w w' : World} {base : Nat} {u : Value} {l : List Nat} (h : ORow w base u l) (k : Below w.heap.size w w') : ORow w' base u l := own_keep h fun b _ hb => k.block b hb
/-- One row more. -/
theorem OR.more {wa w2 : World} {base : Nat} {v v' u : Value} {ls : List (List Nat)} {l : List Nat} {vals : List Value} (h1 : wa.ownsRow base 22 1 v ls.length vals) (h2 : ∀ (i : Nat) (u : Value) (l : List Nat), vals[i]? = some u → ls[i]? = some l → ORow wa base u l) (hu : ORow wa base u l)
    (hown : w2.ownsRow base 22 1 v' (ls.length + 1) (vals ++ [u])) (hgr : wa.grownBy w2 v.ownBlock) : OR w2 base v' (ls ++ [l]) := by
  have key : ∀ {u l}, ORow wa base u l → ORow w2 base u l := by
    rintro u l ⟨h0, hn | ⟨g, cap, cur, e1, hg, k1, k2⟩⟩
    · exact ⟨h0, .inl hn⟩
    · refine ⟨h0, .inr ⟨g, cap, cur, e1, hg, (hgr.block g (Array.getElem?_eq_some_iff.1 k1).1 (fun e => ?_)).trans k1, k2⟩⟩
      obtain ⟨_, ⟨rfl, _⟩ | ⟨g', cap', cur', rfl, _, hg', _⟩⟩ := h1
      · simp [Value.ownBlock] at e
      · have e2 : g = g' := by simpa [Value.ownBlock] using e
        subst e2
        rw [hg'] at k1
        simp at k1
  have hlen : vals.length = ls.length := by have := h1.1; omega
  refine ⟨vals ++ [u], by rw [List.length_append]; exact hown, fun i u' l' e1 e2 => ?_⟩
  by_cases hi : i < vals.length
  · rw [List.getElem?_append_left hi] at e1
    rw [List.getElem?_append_left (by omega)] at e2
    exact key (h2 i u' l' e1 e2)
  · rw [List.getElem?_append_right (by omega)] at e1
    rw [List.getElem?_append_right (by omega)] at e2
    have h0 : i - vals.length = 0 := by
      rcases Nat.eq_zero_or_pos (i - vals.length) with h | h
      · exact h
      · rw [List.getElem?_eq_none (by simp; omega)] at e1; simp at e1
    rw [h0] at e1
    rw [show i - ls.length = 0 by omega] at e2
    simp at e1 e2
    subst e1 e2
    exact key hu
theorem ORow.sl {w : World} {base : Nat} {u : Value} {l : List Nat} (h : ORow w base u l) : Sl w u (l.map Int.ofNat) := Sl.owned (by rw [List.length_map]; exact h)
/-- It reads as rows of numbers. -/
theorem OR.rw {w : World} {base : Nat} {v : Value} {ls : List (List Nat)} (h : OR w base v ls) : Rw w v (toZ ls) := by
  obtain ⟨vals, h1, h2⟩ := h
  have hz : (toZ ls).length = ls.length := by simp [toZ]
  obtain ⟨h3, ⟨rfl, h4⟩ | ⟨g, cap, cur, rfl, h6, h7, h8, h9, h10, ht⟩⟩ := h1
  · refine ⟨none, 0, by rw [hz, h4], fun i l hl => ?_⟩
    have : toZ ls = [] := List.length_eq_zero_iff.1 (by rw [hz, h4])
    rw [this] at hl; simp at hl
  · refine ⟨_, cap, by rw [hz], fun i l hl => ?_⟩
    obtain ⟨hi, e⟩ := List.getElem?_eq_some_iff.1 hl
    rw [hz] at hi
    have e2 : (cur.toList.take (ls.length * 1))[i]? = vals[i]? := by rw [ht]
    rw [List.getElem?_take, if_pos (by omega)] at e2
    obtain ⟨u, hu⟩ : ∃ u, vals[i]? = some u := ⟨vals[i]'(by omega), by simp⟩
    refine ⟨g, 0, u, rfl, ?_, ?_⟩
    · rw [cell_of_row w g _ _ _ _ h7, Nat.zero_add, ← Array.getElem?_toList, e2, hu]
    · have := (h2 i u ls[i] hu (List.getElem?_eq_getElem hi)).sl
      rw [← e]
      simpa [toZ] using this
theorem OR.cap {w : World} {base : Nat} {v : Value} {ls : List (List Nat)} (h : OR w base v ls) : ∃ a c, v = .slice a ls.length c := by
  obtain ⟨a, c, e, _⟩ := h.rw
  exact ⟨a, c, by rw [e]; simp [toZ]⟩
end Go.Proofs.YtgpkhfpejopacaaDoor

namespace Go.Proofs.YtgpkhfpejopacaaDoor
open Go.RowKit

/-- The first number that is not nought. -/
def fst3 (x y z : Nat) : Nat := if x ≠ 0 then x else if y ≠ 0 then y else z
def tr1 (q n : Nat) : List (List Nat) := if fst3 (n / (q * q)) (n / q % q) (n % q) = 1 then [[n / (q * q), n / q % q, n % q]] else []
/-- The triples of the numbers below k. -/
def trL (q k : Nat) : List (List Nat) := (List.range k).flatMap (tr1 q)
theorem trL_succ (q k : Nat) : trL q (k + 1) = trL q k ++ tr1 q k := by
  unfold trL
  rw [List.range_succ, List.flatMap_append]
  simp
theorem trL_one (q : Nat) : trL q 1 = [] := by simp [trL, tr1, fst3]
theorem trL_len (q : Nat) : ∀ k, (trL q k).length ≤ k
  | 0 => by simp [trL]
  | k + 1 => by
    rw [trL_succ, List.length_append]
    have := trL_len q k
    have : (tr1 q k).length ≤ 1 := by unfold tr1; split <;> simp
    omega
/-- A new triple behind the others. -/
theorem or_app3 {w w2 : World} {base n : Nat} {v v' : Value} {L : List (List Nat)} {vals : List Value} {a b c : Int} (x y z : Nat) (h1 : w.ownsRow base 22 1 v L.length vals) (h2 : ∀ (i : Nat) (u : Value) (l : List Nat), vals[i]? = some u → L[i]? = some l → ORow w base u l) (hn : L.length = n) (hbs : base ≤ w.heap.size)
    (hown : w2.ownsRow base 22 1 v' (n + 1) (vals ++ [.slice (some ⟨w.heap.size, 0, none⟩) 3 3])) (hgr : ((w.alloc (.cells #[.int .i64 a, .int .i64 b, .int .i64 c] 3)).alloc (.cells #[.slice (some ⟨w.heap.size, 0, none⟩) 3 3] 22)).grownBy w2 v.ownBlock) (ha : a = (x : Int)) (hb : b = (y : Int)) (hc : c = (z : Int)) : OR w2 base v' (L ++ [[x, y, z]]) ∧ Below base w w2 := by
  subst ha hb hc
  have b1 := balloc w (.cells #[.int .i64 (x : Int), .int .i64 (y : Int), .int .i64 (z : Int)] 3)
  have b2 := balloc (w.alloc (.cells #[.int .i64 (x : Int), .int .i64 (y : Int), .int .i64 (z : Int)] 3)) (.cells #[.slice (some ⟨w.heap.size, 0, none⟩) 3 3] 22)
  have hr : ORow (w.alloc (.cells #[.int .i64 (x : Int), .int .i64 (y : Int), .int .i64 (z : Int)] 3)) base (.slice (some ⟨w.heap.size, 0, none⟩) 3 3) [x, y, z] := ⟨rfl, .inr ⟨w.heap.size, 3, _, rfl, hbs, heap_alloc_new w _, Nat.le_refl _, by unfold maxLen; omega, rfl, rfl⟩⟩
  have b12 := Below.next b1 b2
  refine ⟨OR.more (own_keep h1 fun b _ hb => b12.block b hb) (fun i u l e1 e2 => (h2 i u l e1 e2).below b12) (hr.below b2) (by rw [hn]; exact hown) hgr, ?_⟩
  exact (b12.mono hbs).grown hgr (by simp; omega) fun k hk => (h1.lt k hk).1
theorem own_form2 {w : World} {base n : Nat} {e : TypeId} {v : Value} {xs : List Value} (h : w.ownsRow base e 1 v n xs) : ∃ a c, v = .slice a n c := by
  obtain ⟨_, ⟨h1, h2⟩ | ⟨g, c, cur, h1, _⟩⟩ := h
  · exact ⟨none, 0, by rw [h1, h2]⟩
  · exact ⟨_, _, h1⟩
set_option maxRecDepth 100000 in
set_option maxHeartbeats 16000000 in
theorem triples_any (q : Nat) (w : World) (h2 : 2 ≤ q) (h5 : q ≤ 5) :
    Calls Tryd.prog 35 #[.int .i64 (q : Int)] w fun e w' => ∃ x, e = .returned x ∧ OR w' w.heap.size x (trL q (q * q * q)) ∧ Below w.heap.size w w' := by
  obtain ⟨i27, ji3, jz0, jz1, jz2⟩ := info36
  have HST : Hid (∀ k, trL q (k + 1) = trL q k ++ (if fst3 (k / (q * q)) (k / q % q) (k % q) = 1 then [[k / (q * q), k / q % q, k % q]] else [])) := fun k => trL_succ q k
  have HLE : Hid (∀ k, (trL q k).length ≤ k) := trL_len q
  have H1 : Hid (trL q 1 = []) := trL_one q
  obtain ⟨Q2, HQ2⟩ : ∃ Q2, Hid (q * q = Q2) := ⟨_, rfl⟩
  obtain ⟨Q3, HQ3⟩ : ∃ Q3, Hid (Q2 * q = Q3) := ⟨_, rfl⟩
  have hQ2 : Q2 ≤ 25 := by rw [← HQ2.out]; exact Nat.mul_le_mul h5 h5
  have hQ2' : 4 ≤ Q2 := by rw [← HQ2.out]; exact Nat.mul_le_mul h2 h2
  have hQ3 : Q3 ≤ 125 := by rw [← HQ3.out]; exact Nat.mul_le_mul hQ2 h5
  have hQ3' : 8 ≤ Q3 := by rw [← HQ3.out]; exact Nat.mul_le_mul hQ2' h2
  have hm2 : (q : Int) * (q : Int) = (Q2 : Int) := by rw [← HQ2.out]; rfl
  have hm3 : (Q2 : Int) * (q : Int) = (Q3 : Int) := by rw [← HQ3.out]; rfl
  have hq0 : ¬ (q : Int) = 0 := by omega
  have hq0' : ¬ q = 0 := by omega
  have hQ0 : ¬ (Q2 : Int) = 0 := by omega
  have hQ0' : ¬ Q2 = 0 := by omega
  have HLT : Hid (∀ k : Nat, k / q % q ≤ 5 ∧ k % q ≤ 5) := fun k => ⟨by have := Nat.mod_lt (k / q) (show 0 < q by omega); omega, by have := Nat.mod_lt k (show 0 < q by omega); omega⟩
  rw [HQ2.out, HQ3.out]
  rw [HQ2.out] at HST
  obtain ⟨TL, HTL⟩ : ∃ TL, Hid (trL q = TL) := ⟨_, rfl⟩
  rw [HTL.out] at HST HLE H1 ⊢
  go_enter Tryd.func35, Tryd.ntmps35
  go_wp2
  go_loopw [3, 4] (fun lv kv wr => ∃ k : Nat, kv = .int .i64 (k : Int) ∧ 1 ≤ k ∧ k ≤ Q3 ∧ OR wr w.heap.size lv (TL k) ∧ Below w.heap.size w wr) (fun _ kv _ => (Q3 - intOf kv).toNat)
  case atStart => exact ⟨1, rfl, by omega, by omega, by rw [H1.out]; exact OR.nil _ _, Below.refl _ _⟩
  case round =>
    obtain ⟨k, rfl, hk1, hk, hO, hB⟩ := hrel
    obtain ⟨oa, oc, rfl⟩ := hO.cap
    have hsz := hB.size
    by_cases hlt : k < Q3
    · have hdi : decide ((k : Int) < (Q3 : Int)) = true := by simp; omega
      have hdi' : decide (k < Q3) = true := by simpa using hlt
      have hii : (k : Int) < (Q3 : Int) := by omega
      have hst := HST.out k
      have hle := HLE.out k
      obtain ⟨hyb, hzb⟩ := HLT.out k
      have hxb : k / Q2 ≤ 125 := Nat.le_trans (Nat.div_le_self _ _) (by omega)
      have e1 : (k : Int).tdiv (Q2 : Int) = ((k / Q2 : Nat) : Int) := rfl
      have e2 : (k : Int).tdiv (q : Int) = ((k / q : Nat) : Int) := rfl
      have e3 : ((k / q : Nat) : Int).tmod (q : Int) = ((k / q % q : Nat) : Int) := rfl
      have e4 : (k : Int).tmod (q : Int) = ((k % q : Nat) : Int) := rfl
      have hyy : k / q ≤ 125 := Nat.le_trans (Nat.div_le_self _ _) (by omega)
      obtain ⟨x, Hx⟩ : ∃ x, Hid (k / Q2 = x) := ⟨_, rfl⟩
      obtain ⟨yy, Hyy⟩ : ∃ y, Hid (k / q = y) := ⟨_, rfl⟩
      rw [Hx.out] at hst e1 hxb
      rw [Hyy.out] at hst e2 e3 hyb hyy
      obtain ⟨y, Hy⟩ : ∃ y, Hid (yy % q = y) := ⟨_, rfl⟩
      obtain ⟨z, Hzz⟩ : ∃ z, Hid (k % q = z) := ⟨_, rfl⟩
      rw [Hy.out] at hst e3 hyb
      rw [Hzz.out] at hst e4 hzb
      have HS : Hid (TL (k + 1) = TL k ++ (if fst3 x y z = 1 then [[x, y, z]] else [])) := hst
      obtain ⟨LL, HLL⟩ : ∃ LL, Hid (TL k = LL) := ⟨_, rfl⟩
      rw [HLL.out] at hO hle HS
      obtain ⟨ln, HLN⟩ : ∃ ln, Hid (LL.length = ln) := ⟨_, rfl⟩
      rw [HLL.out, HLN.out]
      rw [HLN.out] at hle hO
      clear hst
      by_cases hx0 : x = 0
      · subst hx0
        by_cases hy0 : y = 0
        · subst hy0
          by_cases hz1 : z = 1
          · subst hz1
            have HS2 : Hid (TL (k + 1) = LL ++ [[0, 0, 1]]) := (show TL (k + 1) = LL ++ [[0, 0, 1]] by rw [HS.out, if_pos (by unfold fst3; simp)])
            obtain ⟨vals, h1, h2'⟩ := hO
            have H1' : Hid (wr.ownsRow w.heap.size 22 1 (.slice oa ln oc) LL.length vals) := h1
            have H2' : Hid (∀ (i : Nat) (u : Value) (l : List Nat), vals[i]? = some u → LL[i]? = some l → ORow wr w.heap.size u l) := h2'
            rw [HLN.out] at h1
            clear h2'
            go_wp2_with (first
              | (at_builtin; refine wpList_append_own _ rfl _ _ 27 rfl w.heap.size 22 i27 (.slice none 0 0) 1 24 undR ji3 jz0 jz1 jz2 rfl (by decide) _ _ _ rfl ((h1.alloc _).alloc _) ⟨wr.heap.size + 1, 0, none⟩ 1 1 [.slice (some ⟨wr.heap.size, 0, none⟩) 3 3] rfl rfl (fun j u hj => by (match j, hj with | 0, hj => simp at hj; subst hj; simp [Addr.add])) (fun u hu => by (simp at hu; subst hu; rfl)) (by (unfold maxLen; omega)) (by omega) (by (simp; omega)) ?_; intro v' w2 hown' hgrow _
                 have hap := or_app3 (L := LL) 0 0 1 H1'.out H2'.out HLN.out (by omega) hown' hgrow (by omega) (by omega) (by omega)
                 rw [← HS2.out] at hap
                 have hBn := hB.trans hap.2
                 have hOn := hap.1
                 obtain ⟨va', vc', rfl⟩ := own_form2 hown'
                 clear hap hown' hgrow h1 hB)
              | go_in)
            go_roundw
            case rel => exact ⟨k + 1, by go_num, by omega, by omega, hOn, hBn⟩
            case measure => simp [intOf]; omega
          · have k1 : ((z : Int) == 1) = false := by simp; omega
            have k2 : ¬ (z : Int) = 1 := by omega
            have HS2 : Hid (TL (k + 1) = LL) := (show TL (k + 1) = LL by rw [HS.out, if_neg (by unfold fst3; simpa using hz1), List.append_nil])
            have hO2 : OR wr w.heap.size (.slice oa ln oc) (TL (k + 1)) := by rw [HS2.out]; exact hO
            clear hO
            go_wp2
            go_roundw
            case rel => exact ⟨k + 1, by go_num, by omega, by omega, hO2, hB⟩
            case measure => simp [intOf]; omega
        · have k3 : ((y : Int) == 0) = false := by simp; omega
          have k4 : ¬ (y : Int) = 0 := by omega
          by_cases hy1 : y = 1
          · subst hy1
            have HS2 : Hid (TL (k + 1) = LL ++ [[0, 1, z]]) := (show TL (k + 1) = LL ++ [[0, 1, z]] by rw [HS.out, if_pos (by unfold fst3; simp)])
            obtain ⟨vals, h1, h2'⟩ := hO
            have H1' : Hid (wr.ownsRow w.heap.size 22 1 (.slice oa ln oc) LL.length vals) := h1
            have H2' : Hid (∀ (i : Nat) (u : Value) (l : List Nat), vals[i]? = some u → LL[i]? = some l → ORow wr w.heap.size u l) := h2'
            rw [HLN.out] at h1
            clear h2'
            go_wp2_with (first
              | (at_builtin; refine wpList_append_own _ rfl _ _ 27 rfl w.heap.size 22 i27 (.slice none 0 0) 1 24 undR ji3 jz0 jz1 jz2 rfl (by decide) _ _ _ rfl ((h1.alloc _).alloc _) ⟨wr.heap.size + 1, 0, none⟩ 1 1 [.slice (some ⟨wr.heap.size, 0, none⟩) 3 3] rfl rfl (fun j u hj => by (match j, hj with | 0, hj => simp at hj; subst hj; simp [Addr.add])) (fun u hu => by (simp at hu; subst hu; rfl)) (by (unfold maxLen; omega)) (by omega) (by (simp; omega)) ?_; intro v' w2 hown' hgrow _
                 have hap := or_app3 (L := LL) 0 1 z H1'.out H2'.out HLN.out (by omega) hown' hgrow (by omega) (by omega) (by omega)
                 rw [← HS2.out] at hap
                 have hBn := hB.trans hap.2
                 have hOn := hap.1
                 obtain ⟨va', vc', rfl⟩ := own_form2 hown'
                 clear hap hown' hgrow h1 hB)
              | go_in)
            go_roundw
            case rel => exact ⟨k + 1, by go_num, by omega, by omega, hOn, hBn⟩
            case measure => simp [intOf]; omega
          · have k1 : ((y : Int) == 1) = false := by simp; omega
            have k2 : ¬ (y : Int) = 1 := by omega
            have HS2 : Hid (TL (k + 1) = LL) := (show TL (k + 1) = LL by rw [HS.out, if_neg (by unfold fst3; simp [hy0]; exact hy1), List.append_nil])
            have hO2 : OR wr w.heap.size (.slice oa ln oc) (TL (k + 1)) := by rw [HS2.out]; exact hO
            clear hO
            go_wp2
            go_roundw
            case rel => exact ⟨k + 1, by go_num, by omega, by omega, hO2, hB⟩
            case measure => simp [intOf]; omega
      · have k3 : ((x : Int) == 0) = false := by simp; omega
        have k4 : ¬ (x : Int) = 0 := by omega
        by_cases hx1 : x = 1
        · subst hx1
          have HS2 : Hid (TL (k + 1) = LL ++ [[1, y, z]]) := (show TL (k + 1) = LL ++ [[1, y, z]] by rw [HS.out, if_pos (by unfold fst3; simp)])
          obtain ⟨vals, h1, h2'⟩ := hO
          have H1' : Hid (wr.ownsRow w.heap.size 22 1 (.slice oa ln oc) LL.length vals) := h1
          have H2' : Hid (∀ (i : Nat) (u : Value) (l : List Nat), vals[i]? = some u → LL[i]? = some l → ORow wr w.heap.size u l) := h2'
          rw [HLN.out] at h1
          clear h2'
          go_wp2_with (first
            | (at_builtin; refine wpList_append_own _ rfl _ _ 27 rfl w.heap.size 22 i27 (.slice none 0 0) 1 24 undR ji3 jz0 jz1 jz2 rfl (by decide) _ _ _ rfl ((h1.alloc _).alloc _) ⟨wr.heap.size + 1, 0, none⟩ 1 1 [.slice (some ⟨wr.heap.size, 0, none⟩) 3 3] rfl rfl (fun j u hj => by (match j, hj with | 0, hj => simp at hj; subst hj; simp [Addr.add])) (fun u hu => by (simp at hu; subst hu; rfl)) (by (unfold maxLen; omega)) (by omega) (by (simp; omega)) ?_; intro v' w2 hown' hgrow _
               have hap := or_app3 (L := LL) 1 y z H1'.out H2'.out HLN.out (by omega) hown' hgrow (by omega) (by omega) (by omega)
               rw [← HS2.out] at hap
               have hBn := hB.trans hap.2
               have hOn := hap.1
               obtain ⟨va', vc', rfl⟩ := own_form2 hown'
               clear hap hown' hgrow h1 hB)
            | go_in)
          go_roundw
          case rel => exact ⟨k + 1, by go_num, by omega, by omega, hOn, hBn⟩
          case measure => simp [intOf]; omega
        · have k1 : ((x : Int) == 1) = false := by simp; omega
          have k2 : ¬ (x : Int) = 1 := by omega
          have HS2 : Hid (TL (k + 1) = LL) := (show TL (k + 1) = LL by rw [HS.out, if_neg (by unfold fst3; simp [hx0]; exact hx1), List.append_nil])
          have hO2 : OR wr w.heap.size (.slice oa ln oc) (TL (k + 1)) := by rw [HS2.out]; exact hO
          clear hO
          go_wp2
          go_roundw
          case rel => exact ⟨k + 1, by go_num, by omega, by omega, hO2, hB⟩
          case measure => simp [intOf]; omega
    · have hdi : decide ((k : Int) < (Q3 : Int)) = false := by simp; omega
      have hdi' : decide (k < Q3) = false := by simpa using hlt
      have hii : ¬ (k : Int) < (Q3 : Int) := by omega
      obtain rfl : k = Q3 := by omega
      have HOF : Hid (OR wr w.heap.size (.slice oa (TL k).length oc) (TL k)) := hO
      generalize (TL k).length = ln at *
      clear hO
      go_wp2
      go_ret
      exact ⟨_, rfl, HOF.out, hB⟩

end Go.Proofs.YtgpkhfpejopacaaDoor
