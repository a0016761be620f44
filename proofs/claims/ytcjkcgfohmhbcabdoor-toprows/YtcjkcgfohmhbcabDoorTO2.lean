/- The walk of the fact that both ask first. -/
import Derived.Test.YtcjkcgfohmhbcabDoorK1
import Derived.Test.YtcjkcgfohmhbcabDoorV6
import Derived.Test.YtcjkcgfohmhbcabDoorS12
import Derived.Test.YtcjkcgfohmhbcabDoorDPart
/- The walk of Check. -/
/- The walks of planeOrder and Check. -/
namespace Go.Proofs.YtcjkcgfohmhbcabDoor
open Go.RowKit

theorem slz_one (w : World) (a : Int) : Sl (w.alloc (.cells #[.int .i64 a] 3)) (.slice (some ⟨w.heap.size, 0, none⟩) 1 1) [a] := by
  refine ⟨_, 1, rfl, fun j hj => ⟨w.heap.size, 0, rfl, ?_⟩⟩
  have h := cell_of_row (w.alloc (.cells #[.int .i64 a] 3)) w.heap.size (0 + j) _ _ _ (heap_alloc_new w _)
  rw [h]
  have : j = 0 := by simp at hj; omega
  subst this; rfl
theorem lv_cases {v : Nat} {B : List (List Nat)} {e : Ending} (h : LvT v B 2 e) : ∃ k l z : Nat, e = .returned (.tuple #[.int .i64 (k : Int), .int .i64 (l : Int), .int .i64 (z : Int)]) ∧ (z = 0 → LvOk v B 2 k l) := by
  rcases h with ⟨_, rfl⟩ | ⟨m, hm, _, _, ⟨k, l, h, rfl⟩ | ⟨_, rfl⟩⟩
  · exact ⟨0, 0, 1, rfl, fun h => by omega⟩
  · obtain rfl : m = 2 := by omega
    exact ⟨k, l, 0, rfl, fun _ => h⟩
  · exact ⟨0, 0, 4, rfl, fun h => by omega⟩
theorem filt_one : ∀ n : Nat, 2 ≤ n → (List.range n).filter (fun x => x == 1) = [1]
  | 0, h => by omega
  | 1, h => by omega
  | 2, _ => rfl
  | n + 3, _ => by
    rw [List.range_succ, List.filter_append, filt_one (n + 2) (by omega)]
    rfl
theorem mtL_one {v : Nat} {B : List (List Nat)} (hB : Bls v B) (hv : 1 ≤ v) : mtL v B = [1] ↔ (∃ i, 0 < i ∧ i < B.length) ∧ ∀ (i j : Nat) (b c : List Nat), j < i → B[i]? = some b → B[j]? = some c → mt b c = 1 := by
  have key : ∀ {i : Nat} {b : List Nat}, B[i]? = some b → B.getD i [] = b := fun h => by rw [List.getD_eq_getElem?_getD, h]; rfl
  constructor
  · intro h
    have h1 : 1 ∈ mtL v B := by rw [h]; simp
    refine ⟨?_, fun i j b c hji hb hc => ?_⟩
    · obtain ⟨i, j, h2, h3, _⟩ := metB_iff.1 (List.mem_filter.1 h1).2
      exact ⟨i, by omega, h3⟩
    · have hm : mt b c ∈ mtL v B := by
        refine List.mem_filter.2 ⟨List.mem_range.2 ?_, metB_iff.2 ⟨i, j, hji, at_lt hb, by rw [key hb, key hc]⟩⟩
        have h1 : mt b c ≤ b.length := List.countP_le_length
        have := (hB b (List.mem_of_getElem? hb)).le
        omega
      rw [h] at hm
      simpa using hm
  · rintro ⟨⟨i, h0, hi⟩, h⟩
    rw [← filt_one (v + 1) (by omega)]
    refine List.filter_congr fun x _ => Bool.eq_iff_iff.2 ?_
    rw [metB_iff, beq_iff_eq]
    constructor
    · rintro ⟨i, j, hji, hi, rfl⟩
      obtain ⟨b, hb⟩ := at_of hi
      obtain ⟨c, hc⟩ := at_of (Nat.lt_trans hji hi)
      rw [key hb, key hc]
      exact h i j b c hji hb hc
    · rintro rfl
      obtain ⟨b, hb⟩ := at_of hi
      obtain ⟨c, hc⟩ := at_of (show 0 < B.length by omega)
      exact ⟨i, 0, h0, hi, by rw [key hb, key hc]; exact h i 0 b c h0 hb hc⟩
theorem prp_of {v k : Nat} {B : List (List Nat)} (hB : Bls v B) (hv : 1 ≤ v) (h3 : 3 ≤ k) (h : LvOk v B 2 k 1) (hm : mtL v B = [1]) : PlP v B :=
  PrP.plp hB ⟨h.2.1, h3, h.2.2, ((mtL_one hB hv).1 hm).1, ((mtL_one hB hv).1 hm).2⟩
theorem prp_lv {v k : Nat} {B : List (List Nat)} (h : PrP v B k) : LvOk v B 2 k 1 := ⟨fun e => by
    obtain ⟨i, _, hi⟩ := h.more
    rw [e] at hi; simp at hi, h.size, h.two⟩
theorem ofn_one {l : List Nat} : l.map Int.ofNat = [1] ↔ l = [1] := by
  constructor
  · intro h
    match l, h with
    | [], h => simp at h
    | [x], h =>
      have : Int.ofNat x = Int.ofNat 1 := by simpa using h
      rw [Int.ofNat.inj this]
    | x :: y :: l, h => simp at h
  · rintro rfl; rfl
theorem mtL_len (v : Nat) (B : List (List Nat)) : (mtL v B).length ≤ v + 1 := by
  unfold mtL
  exact Nat.le_trans (List.length_filter_le _ _) (by simp)
set_option maxRecDepth 100000 in
set_option maxHeartbeats 8000000 in
theorem planeOrder_any (v : Nat) (B : List (List Nat)) (r : Int) (q : Bool) (u : Value) (w : World) (hT : Tab w) (G : GoodD v B) (hu : Rw w u (toZ B))
    (hy : q = true → ∃ k, PrP v B k ∧ r = (k : Int) - 1) (hn : q = false → ¬ PlP v B ∧ r = 0) :
    Calls Tryd.prog 38 #[.agg #[.int .i64 (v : Int), u]] w fun e w' => e = .returned (.tuple #[.int .i64 r, .bool q]) ∧ Below w.heap.size w w' := by
  have hv1 := G.pos
  have h40 := G.le
  have HBLS : Hid (Bls v B) := G.bls
  have HC : Hid (∀ W, Below (w.alloc (.cells #[.int .i64 (v : Int), u] 42)).heap.size (w.alloc (.cells #[.int .i64 (v : Int), u] 42)) W → W.cell? ⟨w.heap.size, 0, none⟩ = some (.int .i64 (v : Int)) ∧ W.cell? ⟨w.heap.size, 1, none⟩ = some u) := des_box (v : Int) u w
  obtain ⟨x0, x1⟩ := HC.out _ (Below.refl _ _)
  have b0 := balloc w (.cells #[.int .i64 (v : Int), u] 42)
  have C1 := Level_any v 2 B u _ G (hu.below b0)
  have HM : Hid (∀ W, Below w.heap.size w W → Calls Tryd.prog 54 #[.agg #[.int .i64 (v : Int), u]] W fun e w' => ∃ xa xn xc, e = .returned (.tuple #[.slice xa xn xc, .int .i64 0]) ∧ Hid (Sl w' (.slice xa xn xc) ((mtL v B).map Int.ofNat)) ∧ Below W.heap.size W w') := fun W hW => by
    refine (Meets_good v B u W (hT.next hW) G (hu.below hW)).mono ?_
    rintro e w' ⟨x, rfl, h, b⟩
    have h1 : Sl w' x ((mtL v B).map Int.ofNat) := Sl.owned (by rw [List.length_map]; exact h)
    obtain ⟨xa, xc, rfl, _⟩ := id h1
    exact ⟨xa, _, xc, rfl, h1, b⟩
  have HE : Hid (∀ (W : World) (x : Value) (q : Bool), Sl W x ((mtL v B).map Int.ofNat) → (q = true ↔ mtL v B = [1]) → Calls Tryd.prog 55 #[x, .slice (some ⟨W.heap.size, 0, none⟩) 1 1] (W.alloc (.cells #[.int .i64 1] 3)) fun e w' => e = .returned (.bool q) ∧ Below (W.alloc (.cells #[.int .i64 1] 3)).heap.size (W.alloc (.cells #[.int .i64 1] 3)) w') := fun W x q hx hq =>
    Equal_any _ [1] q _ _ _ (hx.alloc _) (slz_one W 1) (by rw [List.length_map]; have := mtL_len v B; omega) (by decide) (hq.trans ofn_one.symm)
  have hform : ∃ a n c, u = .slice a n c := by obtain ⟨a, c, e, _⟩ := hu; exact ⟨a, _, c, e⟩
  obtain ⟨a, n, c, rfl⟩ := hform
  clear hu
  cases q
  · obtain ⟨hnp, rfl⟩ := hn rfl
    have HNP : Hid (∀ k, 3 ≤ k → LvOk v B 2 k 1 → ¬ mtL v B = [1]) := fun k h3 h hm => hnp (prp_of HBLS.out hv1 h3 h hm)
    clear hy hn hnp G
    obtain ⟨w0, Hw0⟩ : ∃ w0, Hid (w0 = w) := ⟨_, rfl⟩
    have C1' : Calls Tryd.prog 53 #[.agg #[.int .i64 (v : Int), .slice a n c], .int .i64 2] (w.alloc (.cells #[.int .i64 (v : Int), .slice a n c] 42)) fun e w' => (∃ k l z : Nat, e = .returned (.tuple #[.int .i64 (k : Int), .int .i64 (l : Int), .int .i64 (z : Int)]) ∧ Hid (z = 0 → LvOk v B 2 k l)) ∧ Below (w.alloc (.cells #[.int .i64 (v : Int), .slice a n c] 42)).heap.size (w.alloc (.cells #[.int .i64 (v : Int), .slice a n c] 42)) w' := by
      refine C1.mono ?_
      rintro e w' ⟨h, b⟩
      obtain ⟨k, l, z, e1, h1⟩ := lv_cases h
      exact ⟨⟨k, l, z, e1, h1⟩, b⟩
    clear C1
    go_enter Tryd.func38, Tryd.ntmps38
    go_wp2_with fail
    go_at_call 53
    refine C1'.mono ?_
    rintro e w1 ⟨⟨k, l, z, rfl, HL⟩, b1⟩
    clear C1'
    obtain ⟨y0, y1⟩ := HC.out _ b1
    replace b1 := Below.next b0 b1
    by_cases hz : z = 0
    · subst hz
      have HL := HL.out rfl
      by_cases hl : l = 1
      · subst hl
        by_cases hk : k < 3
        · have hdk : decide ((k : Int) < 3) = true := by simp; omega
          have hdk' : (k : Int) < 3 := by omega
          clear HL
          go_wp2
          exact bodyPost_ret (v := .tuple #[.int .i64 0, .bool false]) (by simp [results, Tryd.results38, go_sem]) rfl ⟨rfl, b1⟩
        · have hdk : decide ((k : Int) < 3) = false := by simp; omega
          have hdk' : ¬ (k : Int) < 3 := by omega
          have HMN := HNP.out k (by omega) HL
          have CM := HM.out _ b1
          clear HL
          have HMF : (false = true ↔ mtL v B = [1]) := ⟨fun h => (Bool.false_ne_true h).elim, fun h => absurd h HMN⟩
          have HMF : Hid (false = true ↔ mtL v B = [1]) := HMF
          clear HMN
          go_wp2_with (first
            | (go_at_call 54; refine CM.mono ?_; rintro e w2 ⟨xa, xn, xc, rfl, hx, b2⟩; clear CM; have CE := HE.out w2 _ false hx.out HMF.out; clear hx; replace b2 := Below.next b1 b2)
            | (go_at_call 55; refine CE.mono ?_; rintro e w3 ⟨rfl, b3⟩; clear CE; replace b3 := Below.next (Below.next b2 (balloc _ _)) b3))
          exact bodyPost_ret (v := .tuple #[.int .i64 0, .bool false]) (by simp [results, Tryd.results38, go_sem]) rfl ⟨rfl, b3⟩
      · have hdl : ((l : Int) != 1) = true := by
          have : ¬ (l : Int) = 1 := by omega
          simpa using this
        have hdl' : ¬ (l : Int) = 1 := by omega
        clear HL
        go_wp2
        exact bodyPost_ret (v := .tuple #[.int .i64 0, .bool false]) (by simp [results, Tryd.results38, go_sem]) rfl ⟨rfl, b1⟩
    · have hdz : ((z : Int) != 0) = true := by
        have : ¬ (z : Int) = 0 := by omega
        simpa using this
      have hdz' : ¬ (z : Int) = 0 := by omega
      clear HL
      go_wp2
      exact bodyPost_ret (v := .tuple #[.int .i64 0, .bool false]) (by simp [results, Tryd.results38, go_sem]) rfl ⟨rfl, b1⟩
  · obtain ⟨k, hk, rfl⟩ := hy rfl
    have hk3 := hk.big
    have HMN : Hid (mtL v B = [1]) := (mtL_one HBLS.out hv1).2 ⟨hk.more, hk.meet⟩
    have hk40 : k ≤ 40 := by
      obtain ⟨i, _, hi⟩ := hk.more
      obtain ⟨b, hb⟩ := at_of hi
      rw [← hk.size b (List.mem_of_getElem? hb)]
      exact G.len (List.mem_of_getElem? hb)
    have hv2 : 2 ≤ v := by
      refine Nat.le_of_not_lt fun h => ?_
      have := hk.plp HBLS.out
      have := this.2.2.1
      omega
    have C1' : Calls Tryd.prog 53 #[.agg #[.int .i64 (v : Int), .slice a n c], .int .i64 2] (w.alloc (.cells #[.int .i64 (v : Int), .slice a n c] 42)) fun e w' => e = .returned (.tuple #[.int .i64 (k : Int), .int .i64 1, .int .i64 0]) ∧ Below (w.alloc (.cells #[.int .i64 (v : Int), .slice a n c] 42)).heap.size (w.alloc (.cells #[.int .i64 (v : Int), .slice a n c] 42)) w' := by
      refine C1.mono ?_
      rintro e w' ⟨h, b⟩
      exact ⟨h.one (.inr ⟨2, rfl, by omega, hv2, .inl ⟨k, 1, prp_lv hk, rfl⟩⟩), b⟩
    clear C1 hy hn G hk
    have hdk : decide ((k : Int) < 3) = false := by simp; omega
    have hdk' : ¬ (k : Int) < 3 := by omega
    go_enter Tryd.func38, Tryd.ntmps38
    go_wp2_with (first
      | (go_at_call 53; refine C1'.mono ?_; rintro e w1 ⟨rfl, b1⟩; clear C1'; obtain ⟨y0, y1⟩ := HC.out _ b1; replace b1 := Below.next b0 b1; have CM := HM.out _ b1)
      | (go_at_call 54; refine CM.mono ?_; rintro e w2 ⟨xa, xn, xc, rfl, hx, b2⟩; clear CM; have CE := HE.out w2 _ true hx.out ⟨fun _ => HMN.out, fun _ => rfl⟩; clear hx; replace b2 := Below.next b1 b2)
      | (go_at_call 55; refine CE.mono ?_; rintro e w3 ⟨rfl, b3⟩; clear CE; replace b3 := Below.next (Below.next b2 (balloc _ _)) b3))
    exact bodyPost_ret (v := .tuple #[.int .i64 ((k : Int) - 1), .bool true]) (by simp [results, Tryd.results38, go_sem]) rfl ⟨rfl, b3⟩

end Go.Proofs.YtcjkcgfohmhbcabDoor

namespace Go.Proofs.YtcjkcgfohmhbcabDoor
open Go.RowKit

set_option maxRecDepth 100000 in
set_option maxHeartbeats 4000000 in
theorem PCheck_yes (v k : Nat) (B : List (List Nat)) (u : Value) (w : World) (hT : Tab w) (G : GoodD v B) (hd : dF (v : Int) (toZ B) = 0) (hu : Rw w u (toZ B)) (hk : PrP v B k) :
    Calls Tryd.prog 14 #[.agg #[.int .i64 (v : Int), u]] w fun e w' => e = .returned (.tuple #[.int .i64 ((k : Int) - 1), .int .i64 0]) ∧ Below w.heap.size w w' := by
  have b0 := balloc w (.cells #[.int .i64 (v : Int), u] 42)
  have C := Check_any v (toZ B) u _ (hu.below b0) (by unfold toZ maxLen; rw [List.length_map]; have := G.few; omega) (fun l hl => by
    obtain ⟨b, hb, rfl⟩ := List.mem_map.1 hl
    rw [List.length_map]; have := G.len hb; unfold maxLen; omega)
  rw [hd] at C
  have HO : Hid (∀ W, Below w.heap.size w W → Calls Tryd.prog 38 #[.agg #[.int .i64 (v : Int), u]] W fun e w' => e = .returned (.tuple #[.int .i64 ((k : Int) - 1), .bool true]) ∧ Below W.heap.size W w') := fun W hW => planeOrder_any v B _ true u W (hT.next hW) G (hu.below hW) (fun _ => ⟨k, hk, rfl⟩) (fun h => by cases h)
  have HC : Hid (∀ W, Below (w.alloc (.cells #[.int .i64 (v : Int), u] 42)).heap.size (w.alloc (.cells #[.int .i64 (v : Int), u] 42)) W → W.cell? ⟨w.heap.size, 0, none⟩ = some (.int .i64 (v : Int)) ∧ W.cell? ⟨w.heap.size, 1, none⟩ = some u) := des_box (v : Int) u w
  obtain ⟨x0, x1⟩ := HC.out _ (Below.refl _ _)
  obtain ⟨a, n, c, rfl⟩ : ∃ a n c, u = .slice a n c := by obtain ⟨a, c, e, _⟩ := hu; exact ⟨a, _, c, e⟩
  obtain ⟨r, Hr⟩ : ∃ r, Hid ((k : Int) - 1 = r) := ⟨_, rfl⟩
  rw [Hr.out] at HO ⊢
  clear hu hd G
  go_enter Tryd.func14, Tryd.ntmps14
  go_wp2_with (first
    | (go_at_call 37; refine C.mono ?_; rintro e w1 ⟨rfl, b1⟩; clear C; obtain ⟨y0, y1⟩ := HC.out _ b1; replace b1 := Below.next b0 b1; have CO := HO.out _ b1)
    | (go_at_call 38; refine CO.mono ?_; rintro e w2 ⟨rfl, b2⟩; clear CO; replace b2 := Below.next b1 b2))
  exact bodyPost_ret (v := .tuple #[.int .i64 r, .int .i64 0]) (by simp [results, Tryd.results14, go_sem]) rfl ⟨rfl, b2⟩
end Go.Proofs.YtcjkcgfohmhbcabDoor

/- The one closed fact that both ask first. -/
namespace Go.Proofs.YtcjkcgfohmhbcabDoor
open Go.RowKit

theorem ra {n : Nat} {f : Nat → Bool} (h : (List.range n).all f = true) {i : Nat} (hi : i < n) : f i = true := List.all_eq_true.1 h i (List.mem_range.2 hi)
def plpB (v : Nat) (B : List (List Nat)) : Bool := ((List.range B.length).all fun i => (List.range i).all fun j => mt (B.getD i []) (B.getD j []) == 1) && (List.range v).all fun x => (List.range x).all fun y => nb B [y, x] == 1
theorem plp_of {v : Nat} {B : List (List Nat)} {s : List Nat} (h : plpB v B = true) (hv : 4 ≤ v) (hs : s.Pairwise (· < ·) ∧ ∀ x ∈ s, 0 ≤ x ∧ x < v) (h4 : s.length = 4) (hl : liB B s = false) : PlP v B := by
  unfold plpB at h
  rw [Bool.and_eq_true] at h
  refine ⟨fun i j b c hji hb hc => ?_, fun x y hy hx => beq_iff_eq.1 (ra (ra h.2 hx) hy), hv, s, rs_iff.2 hs, h4, hl⟩
  have := beq_iff_eq.1 (ra (ra h.1 (List.getElem?_eq_some_iff.1 hb).1) hji)
  rw [List.getD_eq_getElem?_getD, hb, List.getD_eq_getElem?_getD, hc] at this
  exact this
theorem root_two {R : Nat} (h : Fd.RootIs 2 3 (Fd.monL (Fd.digL 3 2 3)) R) : R = 2 := by
  have h2 : Fd.IsOrd 2 3 (Fd.monL (Fd.digL 3 2 3)) 2 (2 ^ 3 - 1) := by
    refine ⟨by decide, by decide +kernel, fun j h1 h2 => ?_⟩
    have : j = 1 ∨ j = 2 ∨ j = 3 ∨ j = 4 ∨ j = 5 ∨ j = 6 := by omega
    rcases this with rfl | rfl | rfl | rfl | rfl | rfl <;> decide +kernel
  have h1 : ¬ Fd.IsOrd 2 3 (Fd.monL (Fd.digL 3 2 3)) 1 (2 ^ 3 - 1) := fun h => h.2.2 1 (by decide) (by decide) (by decide +kernel)
  rcases h with ⟨a, b, c, d⟩ | ⟨rfl, h⟩
  · have : ¬ 2 < R := fun hh => d 2 (by omega) hh h2
    have : R ≠ 1 := fun e => h1 (e ▸ c)
    omega
  · exact absurd h2 (h 2 (by decide) (by decide))
theorem rep7 : rep 2 3 = 7 := by decide +kernel
theorem sg_fano : sgL 2 3 (Fd.monL (Fd.digL 3 2 3)) 2 7 = [1, 2, 4] := by decide +kernel
def fano : List (List Nat) := dvT 7 [1, 2, 4] 7
theorem good_fano : GoodD 7 fano := ⟨by decide, by decide, by decide +kernel, fun b hb => rs_iff.2 ((by decide +kernel : ∀ b ∈ fano, b.Pairwise (· < ·) ∧ ∀ x ∈ b, 0 ≤ x ∧ x < 7) b hb)⟩
theorem dF_fano : dF ((7 : Nat) : Int) (toZ fano) = 0 := by decide +kernel
theorem prp_fano : PrP 7 fano 3 := by
  obtain ⟨k, hk⟩ := (plp_of (v := 7) (B := fano) (s := [0, 1, 2, 5]) (by decide +kernel) (by decide) (by decide) rfl (by decide +kernel)).prp good_fano.bls
  have e : k = 3 := (hk.size (fano.getD 0 []) (by decide +kernel)).symm.trans (by decide +kernel)
  rw [← e]; exact hk
end Go.Proofs.YtcjkcgfohmhbcabDoor

namespace Go.Proofs.YtcjkcgfohmhbcabDoor
open Go.RowKit

theorem fbxT (a b c : Value) (w : World) : ∀ W, Below (w.alloc (.cells #[a, b, c] 36)).heap.size (w.alloc (.cells #[a, b, c] 36)) W → W.cell? ⟨w.heap.size, 0, none⟩ = some a ∧ W.cell? ⟨w.heap.size, 1, none⟩ = some b ∧ W.cell? ⟨w.heap.size, 2, none⟩ = some c := fun W hW => by
  have h := (hW.block w.heap.size (by simp)).trans (heap_alloc_new w _)
  exact ⟨by rw [cell_of_row W _ 0 _ _ _ h]; rfl, by rw [cell_of_row W _ 1 _ _ _ h]; rfl, by rw [cell_of_row W _ 2 _ _ _ h]; rfl⟩
set_option maxRecDepth 100000 in
set_option maxHeartbeats 8000000 in
theorem one_any (w : World) (hT : Tab w) (hF : Fd.Tab w) :
    Calls Tryd.prog 4 #[] w fun e w' => e = .returned (.bool true) ∧ Below w.heap.size w w' := by
  have C1 : Calls Tryd.prog 11 #[.int .i64 2, .int .i64 3] w fun e w' => ∃ a n c, e = .returned (.tuple #[.agg #[.int .i64 2, .int .i64 3, .slice a n c], .int .i64 0]) ∧ Hid (Sl w' (.slice a n c) (Fd.digL 3 2 3)) ∧ Below w.heap.size w w' := by
    refine (Fd.least_any 2 3 w hF).mono ?_
    rintro e w' ⟨q, d, v, l, z, rfl, hS, hL, b⟩
    obtain ⟨rfl, rfl, rfl, rfl⟩ := Fd.fact_least hL
    obtain ⟨a, c, rfl, _⟩ := id hS
    exact ⟨a, _, c, rfl, hS, b⟩
  have H2 : Hid (∀ (W : World) (v : Value), Below w.heap.size w W → Sl W v (Fd.digL 3 2 3) → Calls Tryd.prog 12 #[.agg #[.int .i64 2, .int .i64 3, v]] W fun e w' => ∃ xa xn xc, e = .returned (.tuple #[.int .i64 7, .slice xa xn xc, .int .i64 0]) ∧ Hid (Sl w' (.slice xa xn xc) (([1, 2, 4] : List Nat).map Int.ofNat)) ∧ Below W.heap.size W w') := fun W v hW hS => by
    have := Singer_ok 2 3 _ v W (hF.below hW) hS (by rw [Fd.digL_length]; decide) Fd.fact_good (by decide) (by rw [rep7]; decide)
    rw [rep7] at this
    refine this.mono ?_
    rintro e w' ⟨R, x, rfl, hR, hO, b⟩
    obtain rfl := root_two hR
    rw [sg_fano] at hO
    have hs := hO.sl
    obtain ⟨a, c, rfl, _⟩ := id hs
    exact ⟨a, _, c, rfl, hs, b⟩
  have H3 : Hid (∀ (W : World) (u : Value), Sl W u (([1, 2, 4] : List Nat).map Int.ofNat) → Calls Tryd.prog 13 #[.int .i64 7, u] W fun e w' => ∃ xa xn xc, e = .returned (.tuple #[.agg #[.int .i64 7, .slice xa xn xc], .int .i64 0]) ∧ Hid (Rw w' (.slice xa xn xc) (toZ fano)) ∧ Below W.heap.size W w') := fun W u hu => by
    refine (Dev_main 7 [1, 2, 4] u W ⟨by decide, by decide, by decide, by decide⟩ (by decide) hu).mono ?_
    rintro e w' ⟨y, rfl, hO, b⟩
    have hr := hO.rw
    obtain ⟨a, c, rfl⟩ := hO.cap
    exact ⟨a, _, c, rfl, hr, b⟩
  have H4 : Hid (∀ (W : World) (u : Value), Below w.heap.size w W → Rw W u (toZ fano) → Calls Tryd.prog 14 #[.agg #[.int .i64 7, u]] W fun e w' => e = .returned (.tuple #[.int .i64 2, .int .i64 0]) ∧ Below W.heap.size W w') := fun W u hW hu =>
    PCheck_yes 7 3 fano u W (hT.next hW) good_fano dF_fano hu prp_fano
  have HFB : Hid (∀ (W W' : World) (u : Value), Below (W.alloc (.cells #[.int .i64 2, .int .i64 3, u] 36)).heap.size (W.alloc (.cells #[.int .i64 2, .int .i64 3, u] 36)) W' → W'.cell? ⟨W.heap.size, 0, none⟩ = some (.int .i64 2) ∧ W'.cell? ⟨W.heap.size, 1, none⟩ = some (.int .i64 3) ∧ W'.cell? ⟨W.heap.size, 2, none⟩ = some u) := fun W W' u h => fbxT _ _ _ W W' h
  have HDB : Hid (∀ (W W' : World) (u : Value), Below (W.alloc (.cells #[.int .i64 7, u] 42)).heap.size (W.alloc (.cells #[.int .i64 7, u] 42)) W' → W'.cell? ⟨W.heap.size, 0, none⟩ = some (.int .i64 7) ∧ W'.cell? ⟨W.heap.size, 1, none⟩ = some u) := fun W W' u h => des_box 7 _ W W' h
  go_enter Tryd.func4, Tryd.ntmps4
  go_wp2_with (first
    | (go_at_call 11; refine C1.mono ?_; rintro e w1 ⟨a, n, c, rfl, HS1, b1⟩; clear C1; have c1 := balloc w1 (.cells #[.int .i64 2, .int .i64 3, .slice a n c] 36); obtain ⟨x0, x1, x2⟩ := HFB.out w1 (w1.alloc (.cells #[.int .i64 2, .int .i64 3, .slice a n c] 36)) (.slice a n c) (Below.refl _ _); replace b1 := Below.next b1 c1; have C2 := H2.out (w1.alloc (.cells #[.int .i64 2, .int .i64 3, .slice a n c] 36)) _ b1 (HS1.out.below c1))
    | (go_at_call 12; refine C2.mono ?_; rintro e w2 ⟨ya, yn, yc, rfl, HS2, b2⟩; clear C2; replace b2 := Below.next b1 b2; have C3 := H3.out w2 _ HS2.out)
    | (go_at_call 13; refine C3.mono ?_; rintro e w3 ⟨xa, xn, xc, rfl, HR2, b3⟩; clear C3; have c2 := balloc w3 (.cells #[.int .i64 7, .slice xa xn xc] 42); obtain ⟨d0, d1⟩ := HDB.out w3 (w3.alloc (.cells #[.int .i64 7, .slice xa xn xc] 42)) (.slice xa xn xc) (Below.refl _ _); replace b3 := Below.next (Below.next b2 b3) c2; have C4 := H4.out (w3.alloc (.cells #[.int .i64 7, .slice xa xn xc] 42)) _ b3 (HR2.out.below c2))
    | (go_at_call 14; refine C4.mono ?_; rintro e w4 ⟨rfl, b4⟩; clear C4; obtain ⟨f0, f1⟩ := HDB.out w3 w4 (.slice xa xn xc) b4; replace b4 := Below.next b3 b4))
  go_ret
  exact ⟨rfl, b4⟩

end Go.Proofs.YtcjkcgfohmhbcabDoor
