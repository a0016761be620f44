/- The walk of Check. -/
import Derived.Test.YtgpkhfpejopacaaDoorK1
/- The walks of planeOrder and Check. -/
namespace Go.Proofs.YtgpkhfpejopacaaDoor
open Go.RowKit

theorem slz_one (w : World) (a : Int) : Sl (w.alloc (.cells #[.int .i64 a] 3)) (.slice (some ⟨w.heap.size, 0, none⟩) 1 1) [a] := by
  refine ⟨_, 1, rfl, fun j hj => ⟨w.heap.size, 0, rfl, ?_⟩⟩
  have h := cell_of_row (w.alloc (.cells #[.int .i64 a] 3)) w.heap.size (0 + j) _ _ _ (heap_alloc_new w _)
  rw [h]
  have : j = 0 := by simp at hj; omega
  subst this; rfl
theorem lv_cases {v : Nat} {B : List (List Nat)} {e : Ending} (h : LvT v B 2 e) : ∃ k l z : Nat, e = .returned (.tuple #[.int .i64 (k : Int), .int .i64 (l : Int), .int .i64 (z : Int)]) ∧ (z = 0 → LvOk v B 2 k l) := by
  rcases h with ⟨_, rfl⟩ | ⟨m, hm, _, _, ⟨k, l, h, rfl⟩ | ⟨_, rfl⟩⟩
  · exact ⟨0, 0, 1, rfl, fun h => by omega⟩
  · obtain rfl : m = 2 := by omega
    exact ⟨k, l, 0, rfl, fun _ => h⟩
  · exact ⟨0, 0, 4, rfl, fun h => by omega⟩
theorem filt_one : ∀ n : Nat, 2 ≤ n → (List.range n).filter (fun x => x == 1) = [1]
  | 0, h => by omega
  | 1, h => by omega
  | 2, _ => rfl
  | n + 3, _ => by
    rw [List.range_succ, List.filter_append, filt_one (n + 2) (by omega)]
    rfl
theorem mtL_one {v : Nat} {B : List (List Nat)} (hB : Bls v B) (hv : 1 ≤ v) : mtL v B = [1] ↔ (∃ i, 0 < i ∧ i < B.length) ∧ ∀ (i j : Nat) (b c : List Nat), j < i → B[i]? = some b → B[j]? = some c → mt b c = 1 := by
  have key : ∀ {i : Nat} {b : List Nat}, B[i]? = some b → B.getD i [] = b := fun h => by rw [List.getD_eq_getElem?_getD, h]; rfl
  constructor
  · intro h
    have h1 : 1 ∈ mtL v B := by rw [h]; simp
    refine ⟨?_, fun i j b c hji hb hc => ?_⟩
    · obtain ⟨i, j, h2, h3, _⟩ := metB_iff.1 (List.mem_filter.1 h1).2
      exact ⟨i, by omega, h3⟩
    · have hm : mt b c ∈ mtL v B := by
        refine List.mem_filter.2 ⟨List.mem_range.2 ?_, metB_iff.2 ⟨i, j, hji, at_lt hb, by rw [key hb, key hc]⟩⟩
        have h1 : mt b c ≤ b.length := List.countP_le_length
        have := (hB b (List.mem_of_getElem? hb)).le
        omega
      rw [h] at hm
      simpa using hm
  · rintro ⟨⟨i, h0, hi⟩, h⟩
    rw [← filt_one (v + 1) (by omega)]
    refine List.filter_congr fun x _ => Bool.eq_iff_iff.2 ?_
    rw [metB_iff, beq_iff_eq]
    constructor
    · rintro ⟨i, j, hji, hi, rfl⟩
      obtain ⟨b, hb⟩ := at_of hi
      obtain ⟨c, hc⟩ := at_of (Nat.lt_trans hji hi)
      rw [key hb, key hc]
      exact h i j b c hji hb hc
    · rintro rfl
      obtain ⟨b, hb⟩ := at_of hi
      obtain ⟨c, hc⟩ := at_of (show 0 < B.length by omega)
      exact ⟨i, 0, h0, hi, by rw [key hb, key hc]; exact h i 0 b c h0 hb hc⟩
theorem prp_of {v k : Nat} {B : List (List Nat)} (hB : Bls v B) (hv : 1 ≤ v) (h3 : 3 ≤ k) (h : LvOk v B 2 k 1) (hm : mtL v B = [1]) : PlP v B :=
  PrP.plp hB ⟨h.2.1, h3, h.2.2, ((mtL_one hB hv).1 hm).1, ((mtL_one hB hv).1 hm).2⟩
theorem prp_lv {v k : Nat} {B : List (List Nat)} (h : PrP v B k) : LvOk v B 2 k 1 := ⟨fun e => by
    obtain ⟨i, _, hi⟩ := h.more
    rw [e] at hi; simp at hi, h.size, h.two⟩
theorem ofn_one {l : List Nat} : l.map Int.ofNat = [1] ↔ l = [1] := by
  constructor
  · intro h
    match l, h with
    | [], h => simp at h
    | [x], h =>
      have : Int.ofNat x = Int.ofNat 1 := by simpa using h
      rw [Int.ofNat.inj this]
    | x :: y :: l, h => simp at h
  · rintro rfl; rfl
theorem mtL_len (v : Nat) (B : List (List Nat)) : (mtL v B).length ≤ v + 1 := by
  unfold mtL
  exact Nat.le_trans (List.length_filter_le _ _) (by simp)
set_option maxRecDepth 100000 in
set_option maxHeartbeats 8000000 in
theorem planeOrder_any (v : Nat) (B : List (List Nat)) (r : Int) (q : Bool) (u : Value) (w : World) (hT : Tab w) (G : GoodD v B) (hu : Rw w u (toZ B))
    (hy : q = true → ∃ k, PrP v B k ∧ r = (k : Int) - 1) (hn : q = false → ¬ PlP v B ∧ r = 0) :
    Calls Tryd.prog 41 #[.agg #[.int .i64 (v : Int), u]] w fun e w' => e = .returned (.tuple #[.int .i64 r, .bool q]) ∧ Below w.heap.size w w' := by
  have hv1 := G.pos
  have h40 := G.le
  have HBLS : Hid (Bls v B) := G.bls
  have HC : Hid (∀ W, Below (w.alloc (.cells #[.int .i64 (v : Int), u] 29)).heap.size (w.alloc (.cells #[.int .i64 (v : Int), u] 29)) W → W.cell? ⟨w.heap.size, 0, none⟩ = some (.int .i64 (v : Int)) ∧ W.cell? ⟨w.heap.size, 1, none⟩ = some u) := des_box (v : Int) u w
  obtain ⟨x0, x1⟩ := HC.out _ (Below.refl _ _)
  have b0 := balloc w (.cells #[.int .i64 (v : Int), u] 29)
  have C1 := Level_any v 2 B u _ G (hu.below b0)
  have HM : Hid (∀ W, Below w.heap.size w W → Calls Tryd.prog 66 #[.agg #[.int .i64 (v : Int), u]] W fun e w' => ∃ xa xn xc, e = .returned (.tuple #[.slice xa xn xc, .int .i64 0]) ∧ Hid (Sl w' (.slice xa xn xc) ((mtL v B).map Int.ofNat)) ∧ Below W.heap.size W w') := fun W hW => by
    refine (Meets_good v B u W (hT.next hW) G (hu.below hW)).mono ?_
    rintro e w' ⟨x, rfl, h, b⟩
    have h1 : Sl w' x ((mtL v B).map Int.ofNat) := Sl.owned (by rw [List.length_map]; exact h)
    obtain ⟨xa, xc, rfl, _⟩ := id h1
    exact ⟨xa, _, xc, rfl, h1, b⟩
  have HE : Hid (∀ (W : World) (x : Value) (q : Bool), Sl W x ((mtL v B).map Int.ofNat) → (q = true ↔ mtL v B = [1]) → Calls Tryd.prog 67 #[x, .slice (some ⟨W.heap.size, 0, none⟩) 1 1] (W.alloc (.cells #[.int .i64 1] 3)) fun e w' => e = .returned (.bool q) ∧ Below (W.alloc (.cells #[.int .i64 1] 3)).heap.size (W.alloc (.cells #[.int .i64 1] 3)) w') := fun W x q hx hq =>
    Equal_any _ [1] q _ _ _ (hx.alloc _) (slz_one W 1) (by rw [List.length_map]; have := mtL_len v B; omega) (by decide) (hq.trans ofn_one.symm)
  have hform : ∃ a n c, u = .slice a n c := by obtain ⟨a, c, e, _⟩ := hu; exact ⟨a, _, c, e⟩
  obtain ⟨a, n, c, rfl⟩ := hform
  clear hu
  cases q
  · obtain ⟨hnp, rfl⟩ := hn rfl
    have HNP : Hid (∀ k, 3 ≤ k → LvOk v B 2 k 1 → ¬ mtL v B = [1]) := fun k h3 h hm => hnp (prp_of HBLS.out hv1 h3 h hm)
    clear hy hn hnp G
    obtain ⟨w0, Hw0⟩ : ∃ w0, Hid (w0 = w) := ⟨_, rfl⟩
    have C1' : Calls Tryd.prog 65 #[.agg #[.int .i64 (v : Int), .slice a n c], .int .i64 2] (w.alloc (.cells #[.int .i64 (v : Int), .slice a n c] 29)) fun e w' => (∃ k l z : Nat, e = .returned (.tuple #[.int .i64 (k : Int), .int .i64 (l : Int), .int .i64 (z : Int)]) ∧ Hid (z = 0 → LvOk v B 2 k l)) ∧ Below (w.alloc (.cells #[.int .i64 (v : Int), .slice a n c] 29)).heap.size (w.alloc (.cells #[.int .i64 (v : Int), .slice a n c] 29)) w' := by
      refine C1.mono ?_
      rintro e w' ⟨h, b⟩
      obtain ⟨k, l, z, e1, h1⟩ := lv_cases h
      exact ⟨⟨k, l, z, e1, h1⟩, b⟩
    clear C1
    go_enter Tryd.func41, Tryd.ntmps41
    go_wp2_with fail
    go_at_call 65
    refine C1'.mono ?_
    rintro e w1 ⟨⟨k, l, z, rfl, HL⟩, b1⟩
    clear C1'
    obtain ⟨y0, y1⟩ := HC.out _ b1
    replace b1 := Below.next b0 b1
    by_cases hz : z = 0
    · subst hz
      have HL := HL.out rfl
      by_cases hl : l = 1
      · subst hl
        by_cases hk : k < 3
        · have hdk : decide ((k : Int) < 3) = true := by simp; omega
          have hdk' : (k : Int) < 3 := by omega
          clear HL
          go_wp2
          exact bodyPost_ret (v := .tuple #[.int .i64 0, .bool false]) (by simp [results, Tryd.results41, go_sem]) rfl ⟨rfl, b1⟩
        · have hdk : decide ((k : Int) < 3) = false := by simp; omega
          have hdk' : ¬ (k : Int) < 3 := by omega
          have HMN := HNP.out k (by omega) HL
          have CM := HM.out _ b1
          clear HL
          have HMF : (false = true ↔ mtL v B = [1]) := ⟨fun h => (Bool.false_ne_true h).elim, fun h => absurd h HMN⟩
          have HMF : Hid (false = true ↔ mtL v B = [1]) := HMF
          clear HMN
          go_wp2_with (first
            | (go_at_call 66; refine CM.mono ?_; rintro e w2 ⟨xa, xn, xc, rfl, hx, b2⟩; clear CM; have CE := HE.out w2 _ false hx.out HMF.out; clear hx; replace b2 := Below.next b1 b2)
            | (go_at_call 67; refine CE.mono ?_; rintro e w3 ⟨rfl, b3⟩; clear CE; replace b3 := Below.next (Below.next b2 (balloc _ _)) b3))
          exact bodyPost_ret (v := .tuple #[.int .i64 0, .bool false]) (by simp [results, Tryd.results41, go_sem]) rfl ⟨rfl, b3⟩
      · have hdl : ((l : Int) != 1) = true := by
          have : ¬ (l : Int) = 1 := by omega
          simpa using this
        have hdl' : ¬ (l : Int) = 1 := by omega
        clear HL
        go_wp2
        exact bodyPost_ret (v := .tuple #[.int .i64 0, .bool false]) (by simp [results, Tryd.results41, go_sem]) rfl ⟨rfl, b1⟩
    · have hdz : ((z : Int) != 0) = true := by
        have : ¬ (z : Int) = 0 := by omega
        simpa using this
      have hdz' : ¬ (z : Int) = 0 := by omega
      clear HL
      go_wp2
      exact bodyPost_ret (v := .tuple #[.int .i64 0, .bool false]) (by simp [results, Tryd.results41, go_sem]) rfl ⟨rfl, b1⟩
  · obtain ⟨k, hk, rfl⟩ := hy rfl
    have hk3 := hk.big
    have HMN : Hid (mtL v B = [1]) := (mtL_one HBLS.out hv1).2 ⟨hk.more, hk.meet⟩
    have hk40 : k ≤ 40 := by
      obtain ⟨i, _, hi⟩ := hk.more
      obtain ⟨b, hb⟩ := at_of hi
      rw [← hk.size b (List.mem_of_getElem? hb)]
      exact G.len (List.mem_of_getElem? hb)
    have hv2 : 2 ≤ v := by
      refine Nat.le_of_not_lt fun h => ?_
      have := hk.plp HBLS.out
      have := this.2.2.1
      omega
    have C1' : Calls Tryd.prog 65 #[.agg #[.int .i64 (v : Int), .slice a n c], .int .i64 2] (w.alloc (.cells #[.int .i64 (v : Int), .slice a n c] 29)) fun e w' => e = .returned (.tuple #[.int .i64 (k : Int), .int .i64 1, .int .i64 0]) ∧ Below (w.alloc (.cells #[.int .i64 (v : Int), .slice a n c] 29)).heap.size (w.alloc (.cells #[.int .i64 (v : Int), .slice a n c] 29)) w' := by
      refine C1.mono ?_
      rintro e w' ⟨h, b⟩
      exact ⟨h.one (.inr ⟨2, rfl, by omega, hv2, .inl ⟨k, 1, prp_lv hk, rfl⟩⟩), b⟩
    clear C1 hy hn G hk
    have hdk : decide ((k : Int) < 3) = false := by simp; omega
    have hdk' : ¬ (k : Int) < 3 := by omega
    go_enter Tryd.func41, Tryd.ntmps41
    go_wp2_with (first
      | (go_at_call 65; refine C1'.mono ?_; rintro e w1 ⟨rfl, b1⟩; clear C1'; obtain ⟨y0, y1⟩ := HC.out _ b1; replace b1 := Below.next b0 b1; have CM := HM.out _ b1)
      | (go_at_call 66; refine CM.mono ?_; rintro e w2 ⟨xa, xn, xc, rfl, hx, b2⟩; clear CM; have CE := HE.out w2 _ true hx.out ⟨fun _ => HMN.out, fun _ => rfl⟩; clear hx; replace b2 := Below.next b1 b2)
      | (go_at_call 67; refine CE.mono ?_; rintro e w3 ⟨rfl, b3⟩; clear CE; replace b3 := Below.next (Below.next b2 (balloc _ _)) b3))
    exact bodyPost_ret (v := .tuple #[.int .i64 ((k : Int) - 1), .bool true]) (by simp [results, Tryd.results41, go_sem]) rfl ⟨rfl, b3⟩

end Go.Proofs.YtgpkhfpejopacaaDoor

namespace Go.Proofs.YtgpkhfpejopacaaDoor
open Go.RowKit

set_option maxRecDepth 100000 in
set_option maxHeartbeats 4000000 in
theorem PCheck_bad (p : Int) (ls : List (List Int)) (u : Value) (w : World) (hu : Rw w u ls) (hl : ls.length ≤ maxLen) (hll : ∀ l ∈ ls, l.length ≤ maxLen) (h : dF p ls ≠ 0) :
    Calls Tryd.prog 17 #[.agg #[.int .i64 p, u]] w fun e w' => e = .returned (.tuple #[.int .i64 0, .int .i64 (dF p ls : Int)]) ∧ Below w.heap.size w w' := by
  have b0 := balloc w (.cells #[.int .i64 p, u] 29)
  have C := Check_any p ls u _ (hu.below b0) hl hll
  obtain ⟨z, Hz⟩ : ∃ z, Hid (dF p ls = z) := ⟨_, rfl⟩
  rw [Hz.out] at C h ⊢
  have hz2 : ¬ (z : Int) = 0 := by omega
  have hz1 : ((z : Int) != 0) = true := by simpa using hz2
  obtain ⟨x0, x1⟩ := des_box p u w _ (Below.refl _ _)
  obtain ⟨a, n, c, rfl⟩ : ∃ a n c, u = .slice a n c := by obtain ⟨a, c, e, _⟩ := hu; exact ⟨a, _, c, e⟩
  clear hu hl hll
  go_enter Tryd.func17, Tryd.ntmps17
  go_wp2_with (go_at_call 40; refine C.mono ?_; rintro e w1 ⟨rfl, b1⟩; clear C)
  exact bodyPost_ret (v := .tuple #[.int .i64 0, .int .i64 (z : Int)]) (by simp [results, Tryd.results17, go_sem]) rfl ⟨rfl, Below.next b0 b1⟩
set_option maxRecDepth 100000 in
set_option maxHeartbeats 4000000 in
theorem PCheck_yes (v k : Nat) (B : List (List Nat)) (u : Value) (w : World) (hT : Tab w) (G : GoodD v B) (hd : dF (v : Int) (toZ B) = 0) (hu : Rw w u (toZ B)) (hk : PrP v B k) :
    Calls Tryd.prog 17 #[.agg #[.int .i64 (v : Int), u]] w fun e w' => e = .returned (.tuple #[.int .i64 ((k : Int) - 1), .int .i64 0]) ∧ Below w.heap.size w w' := by
  have b0 := balloc w (.cells #[.int .i64 (v : Int), u] 29)
  have C := Check_any v (toZ B) u _ (hu.below b0) (by unfold toZ maxLen; rw [List.length_map]; have := G.few; omega) (fun l hl => by
    obtain ⟨b, hb, rfl⟩ := List.mem_map.1 hl
    rw [List.length_map]; have := G.len hb; unfold maxLen; omega)
  rw [hd] at C
  have HO : Hid (∀ W, Below w.heap.size w W → Calls Tryd.prog 41 #[.agg #[.int .i64 (v : Int), u]] W fun e w' => e = .returned (.tuple #[.int .i64 ((k : Int) - 1), .bool true]) ∧ Below W.heap.size W w') := fun W hW => planeOrder_any v B _ true u W (hT.next hW) G (hu.below hW) (fun _ => ⟨k, hk, rfl⟩) (fun h => by cases h)
  have HC : Hid (∀ W, Below (w.alloc (.cells #[.int .i64 (v : Int), u] 29)).heap.size (w.alloc (.cells #[.int .i64 (v : Int), u] 29)) W → W.cell? ⟨w.heap.size, 0, none⟩ = some (.int .i64 (v : Int)) ∧ W.cell? ⟨w.heap.size, 1, none⟩ = some u) := des_box (v : Int) u w
  obtain ⟨x0, x1⟩ := HC.out _ (Below.refl _ _)
  obtain ⟨a, n, c, rfl⟩ : ∃ a n c, u = .slice a n c := by obtain ⟨a, c, e, _⟩ := hu; exact ⟨a, _, c, e⟩
  obtain ⟨r, Hr⟩ : ∃ r, Hid ((k : Int) - 1 = r) := ⟨_, rfl⟩
  rw [Hr.out] at HO ⊢
  clear hu hd G
  go_enter Tryd.func17, Tryd.ntmps17
  go_wp2_with (first
    | (go_at_call 40; refine C.mono ?_; rintro e w1 ⟨rfl, b1⟩; clear C; obtain ⟨y0, y1⟩ := HC.out _ b1; replace b1 := Below.next b0 b1; have CO := HO.out _ b1)
    | (go_at_call 41; refine CO.mono ?_; rintro e w2 ⟨rfl, b2⟩; clear CO; replace b2 := Below.next b1 b2))
  exact bodyPost_ret (v := .tuple #[.int .i64 r, .int .i64 0]) (by simp [results, Tryd.results17, go_sem]) rfl ⟨rfl, b2⟩
set_option maxRecDepth 100000 in
set_option maxHeartbeats 4000000 in
theorem PCheck_no (v : Nat) (B : List (List Nat)) (u : Value) (w : World) (hT : Tab w) (G : GoodD v B) (hd : dF (v : Int) (toZ B) = 0) (hu : Rw w u (toZ B)) (hk : ¬ PlP v B) :
    Calls Tryd.prog 17 #[.agg #[.int .i64 (v : Int), u]] w fun e w' => e = .returned (.tuple #[.int .i64 0, .int .i64 4]) ∧ Below w.heap.size w w' := by
  have b0 := balloc w (.cells #[.int .i64 (v : Int), u] 29)
  have C := Check_any v (toZ B) u _ (hu.below b0) (by unfold toZ maxLen; rw [List.length_map]; have := G.few; omega) (fun l hl => by
    obtain ⟨b, hb, rfl⟩ := List.mem_map.1 hl
    rw [List.length_map]; have := G.len hb; unfold maxLen; omega)
  rw [hd] at C
  have HO : Hid (∀ W, Below w.heap.size w W → Calls Tryd.prog 41 #[.agg #[.int .i64 (v : Int), u]] W fun e w' => e = .returned (.tuple #[.int .i64 0, .bool false]) ∧ Below W.heap.size W w') := fun W hW => planeOrder_any v B 0 false u W (hT.next hW) G (hu.below hW) (fun h => by cases h) (fun _ => ⟨hk, rfl⟩)
  have HC : Hid (∀ W, Below (w.alloc (.cells #[.int .i64 (v : Int), u] 29)).heap.size (w.alloc (.cells #[.int .i64 (v : Int), u] 29)) W → W.cell? ⟨w.heap.size, 0, none⟩ = some (.int .i64 (v : Int)) ∧ W.cell? ⟨w.heap.size, 1, none⟩ = some u) := des_box (v : Int) u w
  obtain ⟨x0, x1⟩ := HC.out _ (Below.refl _ _)
  obtain ⟨a, n, c, rfl⟩ : ∃ a n c, u = .slice a n c := by obtain ⟨a, c, e, _⟩ := hu; exact ⟨a, _, c, e⟩
  clear hu hd G
  go_enter Tryd.func17, Tryd.ntmps17
  go_wp2_with (first
    | (go_at_call 40; refine C.mono ?_; rintro e w1 ⟨rfl, b1⟩; clear C; obtain ⟨y0, y1⟩ := HC.out _ b1; replace b1 := Below.next b0 b1; have CO := HO.out _ b1)
    | (go_at_call 41; refine CO.mono ?_; rintro e w2 ⟨rfl, b2⟩; clear CO; replace b2 := Below.next b1 b2))
  exact bodyPost_ret (v := .tuple #[.int .i64 0, .int .i64 4]) (by simp [results, Tryd.results17, go_sem]) rfl ⟨rfl, b2⟩

end Go.Proofs.YtgpkhfpejopacaaDoor
