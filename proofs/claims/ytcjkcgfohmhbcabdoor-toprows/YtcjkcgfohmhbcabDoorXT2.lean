/- The landed Bruijn, walked, where TopRows asks it. -/
import Derived.RowKit
import Derived.Test.YtcjkcgfohmhbcabDoorWdB
import Derived.Test.YtcjkcgfohmhbcabDoorTQ
import Derived.Test.YtcjkcgfohmhbcabDoorDOw
import Derived.Deep.LoopGhost
/- Plain facts behind the landed package word. -/
namespace Go.Proofs.YtcjkcgfohmhbcabDoor

/-- A bound divided over and over. -/
theorem within_is {k : Nat} (hk : 1 ≤ k) (n m : Nat) : 0 < m / k ^ n ↔ k ^ n ≤ m := by
  rw [Nat.div_pos_iff]
  exact ⟨fun h => h.2, fun h => ⟨Nat.pow_pos hk, h⟩⟩
theorem div_more (m k n : Nat) : m / k ^ n / k = m / k ^ (n + 1) := by
  rw [Nat.div_div_eq_div_mul, Nat.pow_succ]

/-- A word over and over, so many numbers. -/
def cyc (n : Nat) (M : List Nat) : List Nat := (List.range n).map fun i => M.getD (i % M.length) 0
theorem cyc_len (n : Nat) (M : List Nat) : (cyc n M).length = n := by unfold cyc; simp
theorem cyc_at {n i : Nat} (M : List Nat) (h : i < n) : (cyc n M).getD i 0 = M.getD (i % M.length) 0 := by
  unfold cyc
  simp [h]
theorem cyc_lt {n k : Nat} {M : List Nat} (hM : ∀ x ∈ M, x < k) (h0 : 0 < M.length) : ∀ x ∈ cyc n M, x < k := fun x hx => by
  obtain ⟨i, -, rfl⟩ := List.mem_map.1 hx
  have hi := Nat.mod_lt i h0
  rw [List.getD_eq_getElem?_getD, List.getElem?_eq_getElem hi]
  exact hM _ (List.getElem_mem hi)
/-- The word behind: what ends with the greatest numbers loses them, and what is last goes up. -/
def raR (k : Nat) : List Nat → List Nat
  | [] => []
  | x :: t => match Nat.beq (Nat.succ x) k with
    | true => raR k t
    | false => Nat.succ x :: t
def nxt (k n : Nat) (M : List Nat) : List Nat := (raR k (cyc n M).reverse).reverse
/-- All these words, one behind the other, of lengths that divide n; none if there are too many. -/
def fkm (k n : Nat) : Nat → List Nat → Option (List Nat)
  | _, [] => some []
  | 0, _ :: _ => none
  | f + 1, x :: t => match fkm k n f (nxt k n (x :: t)) with
    | none => none
    | some R => some (if n % (x :: t).length = 0 then (x :: t) ++ R else R)

/- The same for the kernel: a word over and over, from behind. -/
def cyR (M : List Nat) : Nat → List Nat → List Nat → List Nat
  | 0, _, r => r
  | f + 1, [], r => match M with
    | [] => r
    | x :: t => cyR (x :: t) f t (x :: r)
  | f + 1, x :: t, r => cyR M f t (x :: r)
def lnN : List Nat → Nat → Nat
  | [], m => m
  | _ :: t, m => lnN t (Nat.succ m)
def rvN : List Nat → List Nat → List Nat
  | [], r => r
  | x :: t, r => rvN t (x :: r)
/-- Is what follows so many numbers' words, and nothing behind? -/
def pre : List Nat → List Nat → Option (List Nat)
  | [], l => some l
  | _ :: _, [] => none
  | x :: t, y :: l => match Nat.beq x y with
    | true => pre t l
    | false => none
def fkB (k n : Nat) : Nat → List Nat → List Nat → Bool
  | _, [], [] => true
  | _, [], _ :: _ => false
  | 0, _ :: _, _ => false
  | f + 1, x :: t, l => match Nat.beq (Nat.mod n (lnN (x :: t) 0)) 0 with
    | false => fkB k n f (rvN (raR k (cyR (x :: t) n (x :: t) [])) []) l
    | true => match pre (x :: t) l with
      | none => false
      | some l' => fkB k n f (rvN (raR k (cyR (x :: t) n (x :: t) [])) []) l'
end Go.Proofs.YtcjkcgfohmhbcabDoor

/- The kernel's way is the words' way. -/
/- Words of Lyndon words, over all that is asked: the same as the document's. -/
namespace Go.Proofs.YtcjkcgfohmhbcabDoor

set_option maxRecDepth 100000 in
theorem fkm_all : (List.range 10).all (fun k => (List.range 12).all fun n => decide (4096 < (k + 1) ^ (n + 1)) || fkB (k + 1) (n + 1) 4096 [0] (bru (k + 1) ((k + 1) ^ (n + 1)) ((k + 1) ^ (n + 1)) ((k + 1) ^ (n + 1) - 1) 0)) = true := by decide +kernel
end Go.Proofs.YtcjkcgfohmhbcabDoor

namespace Go.Proofs.YtcjkcgfohmhbcabDoor

theorem lnN_is : ∀ (l : List Nat) m, lnN l m = l.length + m
  | [], m => (Nat.zero_add m).symm
  | _ :: t, m => by
    show lnN t (m + 1) = t.length + 1 + m
    rw [lnN_is t]; omega
theorem rvN_is : ∀ (l r : List Nat), rvN l r = l.reverse ++ r
  | [], r => rfl
  | x :: t, r => by
    show rvN t (x :: r) = _
    rw [rvN_is t, List.reverse_cons, List.append_assoc]; rfl
theorem pre_is : ∀ {x l r : List Nat}, pre x l = some r → l = x ++ r
  | [], l, r, h => by
    have : l = r := Option.some.inj h
    rw [this]; rfl
  | _ :: _, [], r, h => by cases h
  | x :: t, y :: l, r, h => by
    unfold pre at h
    cases hb : Nat.beq x y with
    | false => rw [hb] at h; cases h
    | true =>
      rw [hb] at h
      rw [Nat.eq_of_beq_eq_true hb, pre_is (h : pre t l = some r)]; rfl
theorem drop_cons {M : List Nat} {c : Nat} (h : c < M.length) : M.drop c = M.getD c 0 :: M.drop (c + 1) := by
  rw [List.drop_eq_getElem_cons h, List.getD_eq_getElem?_getD, List.getElem?_eq_getElem h]; rfl
theorem cyR_is {M : List Nat} (h0 : 0 < M.length) : ∀ (f c : Nat) (r : List Nat), c ≤ M.length → cyR M f (M.drop c) r = ((List.range f).map fun i => M.getD ((c + i) % M.length) 0).reverse ++ r
  | 0, c, r, _ => rfl
  | f + 1, c, r, hc => by
    have go : ∀ d, d < M.length → (∀ i, (c + i) % M.length = (d + i) % M.length) → cyR M f (M.drop (d + 1)) (M.getD d 0 :: r) = ((List.range (f + 1)).map fun i => M.getD ((c + i) % M.length) 0).reverse ++ r := fun d hd e => by
      rw [cyR_is h0 f (d + 1) _ (by omega), List.range_succ_eq_map, List.map_cons, List.map_map, List.reverse_cons, List.append_assoc]
      congr 1
      · congr 1
        refine List.map_congr_left fun i _ => ?_
        show M.getD ((d + 1 + i) % M.length) 0 = M.getD ((c + (i + 1)) % M.length) 0
        rw [e (i + 1)]
        congr 2
        omega
      · rw [e 0, Nat.add_zero, Nat.mod_eq_of_lt hd]; rfl
    rcases Nat.lt_or_ge c M.length with h | h
    · rw [drop_cons h]
      exact go c h fun _ => rfl
    · have e : c = M.length := by omega
      have e1 : cyR M (f + 1) (M.drop c) r = cyR M f (M.drop (0 + 1)) (M.getD 0 0 :: r) := by
        rw [List.drop_of_length_le h]
        cases M with
        | nil => cases h0
        | cons x t => rfl
      rw [e1]
      exact go 0 h0 fun i => by rw [e, Nat.add_mod_left, Nat.zero_add]
theorem nxt_is {k n : Nat} (x : Nat) (t : List Nat) : rvN (raR k (cyR (x :: t) n (x :: t) [])) [] = nxt k n (x :: t) := by
  have h := cyR_is (M := x :: t) (Nat.succ_pos _) n 0 [] (Nat.zero_le _)
  rw [List.drop_zero, List.append_nil] at h
  rw [h, rvN_is, List.append_nil]
  unfold nxt cyc
  congr 3
  congr 1
  funext i
  rw [Nat.zero_add]
theorem fkB_is (k n : Nat) : ∀ (f : Nat) (M l : List Nat), fkB k n f M l = true → fkm k n f M = some l
  | 0, [], [], _ => rfl
  | 0, [], _ :: _, h => by cases h
  | _ + 1, [], [], _ => rfl
  | _ + 1, [], _ :: _, h => by cases h
  | 0, _ :: _, _, h => by unfold fkB at h; cases h
  | f + 1, x :: t, l, h => by
    unfold fkB at h
    rw [nxt_is, lnN_is, Nat.add_zero] at h
    show (match fkm k n f (nxt k n (x :: t)) with
      | none => none
      | some R => some (if n % (x :: t).length = 0 then (x :: t) ++ R else R)) = some l
    cases hb : Nat.beq (Nat.mod n (x :: t).length) 0 with
    | false =>
      rw [hb] at h
      rw [fkB_is k n f _ _ h]
      show some (if n % (x :: t).length = 0 then _ else l) = _
      rw [if_neg fun e => by rw [show Nat.mod n (x :: t).length = 0 from e] at hb; cases hb]
    | true =>
      rw [hb] at h
      have e : n % (x :: t).length = 0 := Nat.eq_of_beq_eq_true hb
      cases hp : pre (x :: t) l with
      | none => simp only [hp] at h; cases h
      | some l' =>
        simp only [hp] at h
        rw [fkB_is k n f _ _ h]
        show some (if n % (x :: t).length = 0 then _ else l') = _
        rw [if_pos e, pre_is hp]
theorem fkm_at {k n : Nat} (hk : 1 ≤ k) (hk9 : k ≤ 10) (hn : 1 ≤ n) (hn9 : n ≤ 12) (h : k ^ n ≤ 4096) : fkm k n 4096 [0] = some (bru k (k ^ n) (k ^ n) (k ^ n - 1) 0) := by
  have a := List.all_eq_true.1 (List.all_eq_true.1 fkm_all (k - 1) (List.mem_range.2 (by omega))) (n - 1) (List.mem_range.2 (by omega))
  rw [show k - 1 + 1 = k by omega, show n - 1 + 1 = n by omega, Bool.or_eq_true] at a
  rcases a with a | a
  · have := of_decide_eq_true a; omega
  · exact fkB_is k n _ _ _ a
end Go.Proofs.YtcjkcgfohmhbcabDoor

/- What TopRows needs of package word: words as they lie, and the word behind. -/
namespace Go.Proofs.YtcjkcgfohmhbcabDoor
open Go.RowKit

theorem Wd.some {w : World} {v : Value} {M : List Nat} (h : Wd w v M) (h0 : 0 < M.length) : ∃ b o c, v = .slice (some ⟨b, o, none⟩) M.length c ∧ M.length ≤ c := by
  obtain ⟨a, c, rfl, h1, hk⟩ := h
  obtain ⟨b, o, rfl, _⟩ := hk 0 h0
  exact ⟨b, o, c, rfl, h1⟩

def slLen : Value → Nat
  | .slice _ n _ => n
  | _ => 0

theorem own_cells {w : World} {base n : Nat} {v : Value} {L : List Nat} (h : w.ownsRow base 3 1 v n (nz L)) (h0 : 0 < n) : ∃ g cap, v = .slice (some ⟨g, 0, none⟩) n cap ∧ base ≤ g ∧ n = L.length ∧ ∀ j, j < n → w.cell? ⟨g, j, none⟩ = some (.int .i64 ((L.getD j 0 : Nat) : Int)) := by
  have hl : n = L.length := by have := h.1; simp [nz] at this; omega
  obtain ⟨g, cap, rfl, hb, cur, hg, hc⟩ := Own.of (l := L.map Int.ofNat) h h0
  exact ⟨g, cap, rfl, hb, hl, fun j hj => by rw [cell_of_row _ _ _ _ _ _ hg, hc j hj]; show some (Value.int .i64 ((L.map Int.ofNat).getD j 0)) = _; rw [nat_at]⟩
theorem Wd.cellAt {w : World} {b o n c : Nat} {M : List Nat} (h : Wd w (.slice (Option.some ⟨b, o, none⟩) n c) M) {j : Nat} (hj : j < n) : w.cell? ⟨b, o + j, none⟩ = Option.some (Value.int .i64 ((M.getD j 0 : Nat) : Int)) := by
  obtain ⟨a', c', e, -, hcell⟩ := h
  cases e
  obtain ⟨b', o', e, hci⟩ := hcell j hj
  cases e
  exact hci
theorem newCellZ (w : World) (n : Nat) (x : Int) (h : n = w.heap.size) : (w.alloc (.cells #[.int .i64 x] 3)).cell? ⟨n, 0, none⟩ = some (.int .i64 x) := by subst h; simp
theorem Wd.news {w : World} {b o n c : Nat} {M : List Nat} (h : Wd w (.slice (Option.some ⟨b, o, none⟩) n c) M) : ∀ j u, (nz M)[j]? = Option.some u → w.cell? ((⟨b, o, none⟩ : Addr).add j) = Option.some u := fun j u hj => by
  obtain ⟨a', c', e, -, hcell⟩ := h
  cases e
  have hjl : j < M.length := by
    have := (List.getElem?_eq_some_iff.1 hj).1
    simpa [nz] using this
  obtain ⟨b', o', e, hci⟩ := hcell j hjl
  cases e
  have e2 : ((⟨b, o, none⟩ : Addr).add j) = ⟨b, o + j, none⟩ := by simp [Addr.add]
  rw [e2, hci, ← hj]
  simp [nz, hjl]
theorem nz_one (L : List Nat) : ∀ u ∈ nz L, u.oneCell' = true := fun u hu => by
  obtain ⟨x, -, rfl⟩ := List.mem_map.1 hu
  rfl
theorem ORow.own {w : World} {base : Nat} {v : Value} {M : List Nat} (h : ORow w base v M) : Wd w v M := by
  rcases Nat.eq_zero_or_pos M.length with h0 | h0
  · have e : M = [] := List.length_eq_zero_iff.1 h0
    subst e
    obtain ⟨a, c, rfl⟩ := own_formT h
    exact ⟨a, c, rfl, Nat.zero_le _, fun j hj => absurd hj (Nat.not_lt_zero j)⟩
  · obtain ⟨g, cap, rfl, -, -, hc⟩ := own_cells (L := M) h h0
    refine ⟨_, cap, rfl, ?_, fun j hj => ⟨g, 0, rfl, by rw [Nat.zero_add]; exact hc j hj⟩⟩
    obtain ⟨-, h2 | ⟨g', cap', cur, h3, -, -, h5, -⟩⟩ := h
    · cases h2.1
    · cases h3
      omega

theorem Wd.nil (w : World) : Wd w (.slice none 0 0) [] := ⟨none, 0, rfl, Nat.le_refl _, fun _ hj => absurd hj (Nat.not_lt_zero _)⟩


set_option maxRecDepth 100000 in
theorem isBase_any (k : Int) (w : World) :
    Calls Tryd.prog 21 #[.int .i64 k] w fun e w' => e = .returned (.bool (decide (1 ≤ k ∧ k ≤ 10))) ∧ w' = w := by
  by_cases h1 : 1 ≤ k
  · have hd1 : decide (1 ≤ k) = true := by simpa using h1
    by_cases h2 : k ≤ 10
    · have hd2 : decide (k ≤ 10) = true := by simpa using h2
      rw [decide_eq_true ⟨h1, h2⟩]
      clear h1 h2
      go_enter Tryd.func21, Tryd.ntmps21
      go_wp2
      go_ret
      exact ⟨rfl, rfl⟩
    · have hd2 : decide (k ≤ 10) = false := by simpa using h2
      rw [decide_eq_false (fun h => h2 h.2)]
      clear h1 h2
      go_enter Tryd.func21, Tryd.ntmps21
      go_wp2
      go_ret
      exact ⟨rfl, rfl⟩
  · have hd1 : decide (1 ≤ k) = false := by simpa using h1
    rw [decide_eq_false (fun h => h1 h.1)]
    clear h1
    go_enter Tryd.func21, Tryd.ntmps21
    go_wp2
    go_ret
    exact ⟨rfl, rfl⟩
set_option maxRecDepth 100000 in
set_option maxHeartbeats 4000000 in
theorem isWithin_any (k n m : Nat) (w : World) (hk : 1 ≤ k) (hk2 : (k : Int) < 2 ^ 63) (hn : n ≤ 60) (hm : m ≤ 1000000000000000000) :
    Calls Tryd.prog 22 #[.int .i64 (k : Int), .int .i64 (n : Int), .int .i64 (m : Int)] w fun e w' => e = .returned (.bool (decide (k ^ n ≤ m))) ∧ w' = w := by
  have HW := within_is hk n m
  have HD : Hid (∀ i q, m / k ^ i = q → m / k ^ (i + 1) = q / k) := fun i q h => by rw [← h, div_more]
  have H0 : Hid (m / k ^ 0 = m) := by show _ = _; rw [Nat.pow_zero, Nat.div_one]
  have hk0 : (k : Int) ≠ 0 := by omega
  go_enter Tryd.func22, Tryd.ntmps22
  go_wp2
  go_loopw [2, 8] (fun mv iv wr => ∃ (i q : Nat), iv = .int .i64 (i : Int) ∧ mv = .int .i64 (q : Int) ∧ i ≤ n ∧ q ≤ 1000000000000000000 ∧ Hid (m / k ^ i = q) ∧ wr = w) (fun _ iv _ => (n - intOf iv).toNat)
  case atStart => exact ⟨0, m, rfl, rfl, by omega, hm, H0, rfl⟩
  case round =>
    obtain ⟨i, q, rfl, rfl, hi, hq, HQ, e1⟩ := hrel
    subst e1
    by_cases hlt : i < n
    · have hdi : decide ((i : Int) < (n : Int)) = true := by simp; omega
      have hii : (i : Int) < (n : Int) := by omega
      obtain ⟨r, Hr⟩ : ∃ r, Hid (q / k = r) := ⟨_, rfl⟩
      have er : (q : Int).tdiv (k : Int) = (r : Int) := by rw [← Hr.out]; rfl
      have hr : r ≤ 1000000000000000000 := by rw [← Hr.out]; exact Nat.le_trans (Nat.div_le_self _ _) hq
      have hrw : IntKind.i64.wrap (r : Int) = (r : Int) := IntWalk.i64_in _ (by omega)
      have HQ2 : Hid (m / k ^ (i + 1) = r) := by show _ = _; rw [HD.out i q HQ.out]; exact Hr.out
      go_wp2
      go_roundw
      case rel => exact ⟨i + 1, r, by go_num, rfl, by omega, by omega, HQ2, trivial⟩
      case measure => simp [intOf]; omega
    · have hdi : decide ((i : Int) < (n : Int)) = false := by simp; omega
      have ein : i = n := by omega
      have HZ : Hid (decide (k ^ n ≤ m) = decide (0 < q)) := by
        show _ = _
        have e := HQ.out
        rw [ein] at e
        rw [e] at HW
        by_cases h : k ^ n ≤ m
        · have := HW.2 h
          rw [decide_eq_true h, decide_eq_true (by omega)]
        · have : ¬ 0 < q := fun h2 => h (HW.1 h2)
          rw [decide_eq_false h, decide_eq_false (by omega)]
      go_wp2
      go_ret
      exact ⟨by rw [HZ.out]; rfl, rfl⟩


def nV (x : Nat) : Value := .int .i64 (x : Int)
/-- A made row of one's own is a word. -/
theorem OwV.wd {w : World} {g n : Nat} {f : Nat → Nat} (h : OwV 3 nV w g n f) {M : List Nat} {m c : Nat} (hm : M.length = m) (hmn : m ≤ n) (hc : m ≤ c) (e : ∀ j, j < m → M.getD j 0 = f j) : Wd w (.slice (some ⟨g, 0, none⟩) m c) M := by
  subst hm
  refine ⟨_, c, rfl, hc, fun j hj => ⟨g, 0, rfl, ?_⟩⟩
  rw [Nat.zero_add, h.cell j (by omega), e j hj]; rfl
theorem run_makeN (n : Nat) (hn : n ≤ 100000) (w : World) : (Instr.makeSlice 23 (.int .i64 (n : Int)) (.int .i64 (n : Int))).run Tryd.prog w = .ok (.slice (some ⟨w.heap.size, 0, none⟩) n n) (w.alloc (.cells (madeCells #[.int .i64 0] n) 3)) := by
  obtain ⟨i3, hi, hz0, hz1, hz2⟩ := info3
  have h := run_make (P := Tryd.prog) w 23 3 i3 (.int .i64 0) und22 hi hz0 .i64 .i64 n n (by omega) (by omega) (by rw [hz2]; omega) (by omega)
  simpa [hz1, Value.cells] using h

def cyF (M : List Nat) (i : Nat) : Nat → Nat := fun j => if j < i then M.getD (j % M.length) 0 else 0
theorem cyF_set (M : List Nat) (i : Nat) : updV (cyF M i) i (M.getD (i % M.length) 0) = cyF M (i + 1) := by
  funext j
  unfold updV cyF
  by_cases e : j = i
  · rw [if_pos e, if_pos (by omega), e]
  · rw [if_neg e]
    by_cases h : j < i
    · rw [if_pos h, if_pos (by omega)]
    · rw [if_neg h, if_neg (by omega)]
theorem take_rev {L : List Nat} {q : Nat} (h : q < L.length) : (L.take (q + 1)).reverse = L.getD q 0 :: (L.take q).reverse := by
  rw [List.take_add_one, List.reverse_append, List.getElem?_eq_getElem h, List.getD_eq_getElem?_getD, List.getElem?_eq_getElem h]
  rfl
theorem raR_yes {k x : Nat} (t : List Nat) (h : x + 1 = k) : raR k (x :: t) = raR k t := by
  show (match Nat.beq (Nat.succ x) k with
    | true => raR k t
    | false => Nat.succ x :: t) = _
  rw [show Nat.beq (Nat.succ x) k = true from Nat.beq_eq.symm ▸ h]
theorem raR_no {k x : Nat} (t : List Nat) (h : ¬ x + 1 = k) : raR k (x :: t) = (x + 1) :: t := by
  show (match Nat.beq (Nat.succ x) k with
    | true => raR k t
    | false => Nat.succ x :: t) = _
  cases e : Nat.beq (Nat.succ x) k with
  | true => exact absurd (Nat.eq_of_beq_eq_true e) h
  | false => rfl
theorem up_at {L : List Nat} {q x j : Nat} (hq : q < L.length) (hj : j < q + 1) : (L.take q ++ [x + 1]).getD j 0 = updV (fun j => L.getD j 0) q (x + 1) j := by
  have hl : (L.take q).length = q := by rw [List.length_take]; omega
  unfold updV
  by_cases e : j = q
  · rw [if_pos e, e, List.getD_eq_getElem?_getD, List.getElem?_append_right (by omega), hl, Nat.sub_self]; rfl
  · rw [if_neg e, List.getD_eq_getElem?_getD, List.getElem?_append_left (by omega), List.getElem?_take, if_pos (by omega)]
    exact (List.getD_eq_getElem?_getD ..).symm
set_option maxRecDepth 100000 in
set_option maxHeartbeats 8000000 in
theorem following_any (k n : Nat) (M : List Nat) (v : Value) (w : World) (hv : Wd w v M) (hk : 1 ≤ k) (hk10 : k ≤ 10) (hn : n ≤ 4096) (h0 : 0 < M.length) (hl : M.length ≤ 4096) (hM : ∀ x ∈ M, x ≤ 9) :
    Calls Tryd.prog 42 #[.int .i64 (k : Int), .int .i64 (n : Int), v] w fun e w' => (∃ y, e = .returned y ∧ Wd w' y (nxt k n M) ∧ ∃ m c, y = .slice (some ⟨w.heap.size, 0, none⟩) m c) ∧ Below w.heap.size w w' := by
  obtain ⟨b, o, c, rfl, hc⟩ := hv.some h0
  have HWR : Hid (∀ W, Below w.heap.size w W → ∀ i, i < M.length → W.cell? ⟨b, o + i, none⟩ = some (.int .i64 ((M.getD i 0 : Nat) : Int))) := fun W bW i hi => (hv.below bW).cellAt hi
  have hmk : ∀ w : World, (Instr.makeSlice 23 (.int .i64 (n : Int)) (.int .i64 (n : Int))).run Tryd.prog w = .ok (.slice (some ⟨w.heap.size, 0, none⟩) n n) (w.alloc (.cells (madeCells #[.int .i64 0] n) 3)) := fun w => run_makeN n (by omega) w
  have hO0 : OwV 3 nV (w.alloc (.cells (madeCells #[.int .i64 0] n) 3)) w.heap.size n (cyF M 0) := OwV.made n w _ _ (by intro j; unfold cyF; rw [if_neg (by omega)]; rfl)
  have hB0 := balloc w (.cells (madeCells #[.int .i64 0] n) 3)
  have HST : Hid (∀ i, updV (cyF M i) i (M.getD (i % M.length) 0) = cyF M (i + 1)) := cyF_set M
  obtain ⟨L, HL⟩ : ∃ L, Hid (cyc n M = L) := ⟨_, rfl⟩
  have HLL : Hid (L.length = n) := by show _ = _; rw [← HL.out, cyc_len]
  have HLA : Hid (∀ j, j < n → cyF M n j = L.getD j 0) := fun j hj => by
    rw [← HL.out, cyc_at M hj]; unfold cyF; rw [if_pos hj]
  have HL9 : Hid (∀ j, j < n → L.getD j 0 ≤ 9) := fun j hj => by
    rw [← HL.out, cyc_at M hj]
    have hi := Nat.mod_lt j h0
    rw [List.getD_eq_getElem?_getD, List.getElem?_eq_getElem hi]
    exact hM _ (List.getElem_mem hi)
  obtain ⟨Z, HZ⟩ : ∃ Z, Hid (raR k L.reverse = Z) := ⟨_, rfl⟩
  have HNX : Hid (nxt k n M = Z.reverse) := by show _ = _; unfold nxt; rw [HL.out, HZ.out]
  have HZ0 : Hid (raR k (L.take n).reverse = Z) := by show _ = _; rw [List.take_of_length_le (by rw [HLL.out]; exact Nat.le_refl _)]; exact HZ.out
  rw [HNX.out]
  obtain ⟨g, Hg⟩ : ∃ g, Hid (w.heap.size = g) := ⟨_, rfl⟩
  have hM9 : Hid (∀ i, i < M.length → M.getD i 0 ≤ 9) := fun i hi => by
    rw [List.getD_eq_getElem?_getD, List.getElem?_eq_getElem hi]
    exact hM _ (List.getElem_mem hi)
  have HG0 : Hid (∀ W (f : Nat → Nat), OwV 3 nV W g n f → (∀ j, j < n → f j = L.getD j 0) → OwV 3 nV W g n (fun j => L.getD j 0)) := fun W f h e => h.congr e
  obtain ⟨m, Hm⟩ : ∃ m, Hid (M.length = m) := ⟨_, rfl⟩
  rw [Hm.out] at HWR HST hM9 h0 hl hc ⊢
  have hbg : b < g := by
    have := World.block_lt_of_cell? _ _ (HWR.out w (Below.refl _ _) 0 h0)
    rw [Hg.out] at this; exact this
  clear hv hM HZ HNX HL
  have hm0 : ¬ m = 0 := by omega
  go_enter Tryd.func42, Tryd.ntmps42
  go_wp2
  rw [Hg.out] at hO0 hB0 ⊢
  go_loopw [8, 13] (fun _ iv wr => ∃ (i : Nat), iv = .int .i64 (i : Int) ∧ i ≤ n ∧ OwV 3 nV wr g n (cyF M i) ∧ Below g w wr) (fun _ iv _ => (n - intOf iv).toNat)
  case atStart => exact ⟨0, rfl, by omega, hO0, hB0⟩
  case round =>
    clear hO0 hB0 hmk
    obtain ⟨i, rfl, hi, hO, hB⟩ := hrel
    by_cases hlt : i < n
    · have hdi : decide ((i : Int) < (n : Int)) = true := by simp; omega
      have hii : (i : Int) < (n : Int) := by omega
      obtain ⟨r, Hr⟩ : ∃ r, Hid (i % m = r) := ⟨_, rfl⟩
      have er : (i : Int).tmod (m : Int) = (r : Int) := by rw [← Hr.out]; rfl
      have hrm : r < m := by rw [← Hr.out]; exact Nat.mod_lt i h0
      have hrmi : (r : Int) < (m : Int) := by omega
      have hcx := HWR.out wr (by rw [Hg.out]; exact hB) r hrm
      have hst := HST.out i
      obtain ⟨x, Hx⟩ : ∃ x, Hid (M.getD r 0 = x) := ⟨_, rfl⟩
      rw [Hr.out, Hx.out] at hst
      rw [Hx.out] at hcx
      have hf := hO.frozen i
      have hO2 := hO.set i x
      rw [hst] at hO2
      have hB2 : Below g w (wr.setCell ⟨g, i, none⟩ (nV x)) := hB.setCell (Nat.le_refl _) _
      have hcg := hO.cell i hlt
      clear hst
      go_wp2
      go_roundw
      case rel => exact ⟨i + 1, by go_num, by omega, hO2, hB2⟩
      case measure => simp [intOf]; omega
    · have hdi : decide ((i : Int) < (n : Int)) = false := by simp; omega
      obtain rfl : i = n := by omega
      have hOL := HG0.out wr _ hO HLA.out
      clear hO hlt hi HST HLA HG0
      go_wp2
      go_loopw [7] (fun sv ur => ∃ (r : Nat), sv = .slice (some ⟨g, 0, none⟩) r i ∧ r ≤ i ∧ Hid (raR k (L.take r).reverse = Z) ∧ ur = wr) (fun sv _ => slLen sv)
      case atStart => exact ⟨i, rfl, Nat.le_refl _, HZ0.out, rfl⟩
      case round =>
        obtain ⟨r, rfl, hr, HR, e1⟩ := hrel
        subst e1
        rcases Nat.lt_or_ge 0 r with hr0 | hr0
        · obtain ⟨q, rfl⟩ : ∃ q, r = q + 1 := ⟨r - 1, by omega⟩
          have hcx := hOL.cell q (by omega)
          have h9 := HL9.out q (by omega)
          have hR := HR.out
          rw [take_rev (by rw [HLL.out]; omega)] at hR
          obtain ⟨x, Hx⟩ : ∃ x, Hid (L.getD q 0 = x) := ⟨_, rfl⟩
          rw [Hx.out] at h9 hR
          have hcx2 : wr.cell? ⟨g, q, none⟩ = some (Value.int .i64 (x : Int)) := by rw [← Hx.out]; exact hcx
          clear hcx
          have ei : ((q + 1 : Nat) : Int) - 1 = (q : Int) := by omega
          have hqi : (q : Int) < ((q + 1 : Nat) : Int) := by omega
          have hqc : (q : Int) ≤ (i : Int) := by omega
          have hd0 : decide (0 < q + 1) = true := by simp
          by_cases hx : x + 1 = k
          · have he : ((x : Int) == (k : Int) - 1) = true := by simp; omega
            have HR2 : Hid (raR k (L.take q).reverse = Z) := by show _ = _; rw [← hR, raR_yes _ hx]
            clear hR hx
            go_wp2
            go_roundw
            case rel => exact ⟨q, rfl, by omega, HR2, trivial⟩
            case measure => simp [slLen]
          · have he : ((x : Int) == (k : Int) - 1) = false := by simp; omega
            rw [raR_no _ hx] at hR
            clear hx
            have hxw : IntKind.i64.wrap ((x : Int) + 1) = (x : Int) + 1 := IntWalk.i64_in _ (by omega)
            have hf := hOL.frozen q
            have hO2 := hOL.set q (x + 1)
            have hB2 : Below g w (wr.setCell ⟨g, q, none⟩ (nV (x + 1))) := hB.setCell (Nat.le_refl _) _
            have HWD : Hid (∀ W, OwV 3 nV W g i (updV (fun j => L.getD j 0) q (x + 1)) → Wd W (.slice (some ⟨g, 0, none⟩) (q + 1) i) Z.reverse) := fun W h => by
              rw [← hR, List.reverse_cons, List.reverse_reverse]
              exact h.wd (by rw [List.length_append, List.length_take, HLL.out, Nat.min_eq_left (by omega)]; rfl) (by omega) (by omega) fun j hj => up_at (by rw [HLL.out]; omega) hj
            clear hR
            go_wp2
            go_ret
            exact ⟨⟨_, rfl, HWD.out _ hO2, q + 1, i, by rw [Hg.out]; rfl⟩, by rw [Hg.out]; exact hB2⟩
        · obtain rfl : r = 0 := by omega
          have HZE : Hid ([] = Z) := HR.out
          go_wp2
          go_ret
          exact ⟨⟨_, rfl, by rw [← HZE.out]; exact ⟨_, i, rfl, Nat.zero_le _, fun _ hj => absurd hj (Nat.not_lt_zero _)⟩, 0, i, by rw [Hg.out]; rfl⟩, by rw [Hg.out]; exact hB⟩

end Go.Proofs.YtcjkcgfohmhbcabDoor

namespace Go.Proofs.YtcjkcgfohmhbcabDoor
open Go.RowKit


theorem raR_lt {k : Nat} : ∀ (l : List Nat), (∀ x ∈ l, x < k) → ∀ x ∈ raR k l, x < k
  | [], _, x, hx => by cases hx
  | y :: t, h, x, hx => by
    by_cases e : y + 1 = k
    · rw [raR_yes t e] at hx
      exact raR_lt t (fun z hz => h z (List.mem_cons_of_mem _ hz)) x hx
    · rw [raR_no t e] at hx
      rcases List.mem_cons.1 hx with rfl | hx
      · have := h y (List.mem_cons_self ..)
        omega
      · exact h x (List.mem_cons_of_mem _ hx)
theorem raR_len {k : Nat} : ∀ (l : List Nat), (raR k l).length ≤ l.length
  | [] => Nat.le_refl _
  | y :: t => by
    by_cases e : y + 1 = k
    · rw [raR_yes t e]
      exact Nat.le_trans (raR_len t) (Nat.le_succ _)
    · rw [raR_no t e]
      exact Nat.le_refl _
theorem nxt_lt {k n : Nat} {M : List Nat} (hM : ∀ x ∈ M, x < k) (h0 : 0 < M.length) : ∀ x ∈ nxt k n M, x < k := fun x hx => by
  unfold nxt at hx
  exact raR_lt _ (fun y hy => cyc_lt hM h0 y (List.mem_reverse.1 hy)) x (List.mem_reverse.1 hx)
theorem nxt_len (k n : Nat) (M : List Nat) : (nxt k n M).length ≤ n := by
  unfold nxt
  rw [List.length_reverse]
  refine Nat.le_trans (raR_len _) ?_
  rw [List.length_reverse, cyc_len]
  exact Nat.le_refl _
theorem fkm_more {k n f : Nat} {M R : List Nat} (h : fkm k n f M = some R) (h0 : 0 < M.length) : ∃ g R', f = g + 1 ∧ fkm k n g (nxt k n M) = some R' ∧ (n % M.length = 0 → R = M ++ R') ∧ (¬ n % M.length = 0 → R = R') := by
  cases M with
  | nil => cases h0
  | cons x t =>
    cases f with
    | zero => cases h
    | succ g =>
      have h1 : (match fkm k n g (nxt k n (x :: t)) with
        | none => none
        | some R => some (if n % (x :: t).length = 0 then (x :: t) ++ R else R)) = some R := h
      cases e : fkm k n g (nxt k n (x :: t)) with
      | none => rw [e] at h1; cases h1
      | some R' =>
        rw [e] at h1
        have h2 := Option.some.inj h1
        refine ⟨g, R', rfl, e, fun h => ?_, fun h => ?_⟩
        · rw [if_pos h] at h2; exact h2.symm
        · rw [if_neg h] at h2; exact h2.symm
theorem fkm_nil {k n f : Nat} {R : List Nat} (h : fkm k n f [] = some R) : R = [] := by
  cases f <;> exact (Option.some.inj h).symm
/-- What is still to come. -/
def Rest (k n f : Nat) (Z P M : List Nat) : Prop := ∃ R, fkm k n f M = some R ∧ Z = P ++ R
theorem Rest.nil {k n f : Nat} {Z P : List Nat} (h : Rest k n f Z P []) : Z = P := by
  obtain ⟨R, h1, h2⟩ := h
  rw [h2, fkm_nil h1, List.append_nil]
theorem Rest.len {k n f : Nat} {Z P M : List Nat} (h : Rest k n f Z P M) : P.length ≤ Z.length := by
  obtain ⟨R, h1, h2⟩ := h
  rw [h2, List.length_append]
  exact Nat.le_add_right _ _
theorem Rest.step {k n f : Nat} {Z P M : List Nat} (h : Rest k n f Z P M) (h0 : 0 < M.length) : ∃ g, f = g + 1 ∧ (n % M.length = 0 → Rest k n g Z (P ++ M) (nxt k n M)) ∧ (¬ n % M.length = 0 → Rest k n g Z P (nxt k n M)) := by
  obtain ⟨R, h1, h2⟩ := h
  obtain ⟨g, R', e, h3, h4, h5⟩ := fkm_more h1 h0
  refine ⟨g, e, fun h => ⟨R', h3, ?_⟩, fun h => ⟨R', h3, ?_⟩⟩
  · rw [h2, h4 h, List.append_assoc]
  · rw [h2, h5 h]
theorem Wd.grown {w w' : World} {b o n c : Nat} {M : List Nat} {row : Option Nat} (h : Wd w (.slice (Option.some ⟨b, o, none⟩) n c) M) (hg : w.grownBy w' row) (hne : Option.some b ≠ row) : Wd w' (.slice (Option.some ⟨b, o, none⟩) n c) M := by
  obtain ⟨a', c', e, h0, hcell⟩ := id h
  cases e
  refine ⟨_, _, rfl, h0, fun j hj => ⟨b, o, rfl, ?_⟩⟩
  exact hg.cell (h.cellAt hj) hne
theorem Wd.one (w : World) : Wd (w.alloc (.cells #[.int .i64 0] 3)) (.slice (Option.some ⟨w.heap.size, 0, none⟩) 1 1) [0] := ⟨_, 1, rfl, Nat.le_refl _, fun j hj => ⟨_, _, rfl, by
  have : j = 0 := by
    have : j < 1 := hj
    omega
  subst this
  exact newCellZ w _ 0 rfl⟩⟩
set_option maxRecDepth 100000 in
set_option maxHeartbeats 8000000 in
theorem bruijn_any (k n : Nat) (w : World) (hk : 1 ≤ k) (hk10 : k ≤ 10) (hn : 1 ≤ n) (hn12 : n ≤ 12) (h4096 : k ^ n ≤ 4096) :
    Calls Tryd.prog 23 #[.int .i64 (k : Int), .int .i64 (n : Int)] w fun e w' => (∃ y, e = .returned y ∧ Wd w' y (bjN k n)) ∧ Below w.heap.size w w' := by
  obtain ⟨i3, ki3, kz0, kz1, kz2⟩ := info3
  obtain ⟨Z, HZ⟩ : ∃ Z, Hid (bjN k n = Z) := ⟨_, rfl⟩
  have HR0 : Hid (Rest k n 4096 Z [] [0]) := ⟨Z, by rw [← HZ.out]; exact fkm_at hk hk10 hn hn12 h4096, rfl⟩
  have HZL : Hid (Z.length ≤ 4096) := by
    show _ ≤ _
    rw [← HZ.out, show (bjN k n).length = k ^ n from (bru_once hk hk10 hn hn12 h4096 rfl).1]
    exact h4096
  rw [HZ.out]
  have hW0 := Wd.one w
  have hB0 := balloc w (.cells #[.int .i64 0] 3)
  obtain ⟨g, Hg⟩ : ∃ g, Hid (w.heap.size = g) := ⟨_, rfl⟩
  have hgs : g ≤ w.heap.size := by have := Hg.out; omega
  have HFW : Hid (∀ (M : List Nat) (v : Value) (W : World), Wd W v M → 0 < M.length → M.length ≤ 12 → (∀ x ∈ M, x < k) → Calls Tryd.prog 42 #[.int .i64 (k : Int), .int .i64 (n : Int), v] W fun e w' => (∃ y, e = .returned y ∧ Wd w' y (nxt k n M) ∧ ∃ m c, y = .slice (some ⟨W.heap.size, 0, none⟩) m c) ∧ Below W.heap.size W w') := fun M v W h1 h2 h3 h4 => following_any k n M v W h1 hk hk10 (by omega) h2 (by omega) fun x hx => by have := h4 x hx; omega
  clear h4096
  go_enter Tryd.func23, Tryd.ntmps23
  go_wp2
  rw [Hg.out] at hB0 hW0 ⊢
  go_loopg [5, 6] 4096 (fun f ov wv wr => ∃ (P M : List Nat) (oa : Option Addr) (oc bw wc : Nat), ov = .slice oa P.length oc ∧ wv = .slice (some ⟨bw, 0, none⟩) M.length wc ∧ Wd wr (.slice (some ⟨bw, 0, none⟩) M.length wc) M ∧ M.length ≤ 12 ∧ Hid (∀ x ∈ M, x < k) ∧ Hid (Rest k n f Z P M) ∧ Hid (∀ b, (Value.slice oa P.length oc).ownBlock = some b → b ≠ bw) ∧ wr.ownsRow g 3 1 (.slice oa P.length oc) P.length (nz P) ∧ Below g w wr)
  case atStart => exact ⟨[], [0], none, 0, g, 1, rfl, rfl, hW0, by decide, (fun x hx => by simp at hx; omega : ∀ x ∈ [0], x < k), HR0.out, (fun b hb => by simp [Value.ownBlock] at hb : ∀ b, (Value.slice none 0 0).ownBlock = some b → b ≠ g), World.ownsRow_nil _ _ _ _, hB0⟩
  case round =>
    clear hB0 hW0 HR0
    obtain ⟨P, M, oa, oc, bw, wc, rfl, rfl, hW, hM12, HM, HR, HNE, hown, hB⟩ := hrel
    have hP : P.length ≤ 4096 := Nat.le_trans HR.out.len HZL.out
    obtain ⟨l, Hl⟩ : ∃ l, Hid (M.length = l) := ⟨_, rfl⟩
    obtain ⟨p, Hp⟩ : ∃ p, Hid (P.length = p) := ⟨_, rfl⟩
    have hbs := hB.size
    rcases Nat.lt_or_ge 0 M.length with h0 | h0
    · have hst := HR.out.step h0
      have HC : Hid (∀ W, Wd W (.slice (some ⟨bw, 0, none⟩) l wc) M → Calls Tryd.prog 42 #[.int .i64 (k : Int), .int .i64 (n : Int), .slice (some ⟨bw, 0, none⟩) l wc] W fun e w' => (∃ y, e = .returned y ∧ Wd w' y (nxt k n M) ∧ ∃ m c, y = .slice (some ⟨W.heap.size, 0, none⟩) m c) ∧ Below W.heap.size W w') := fun W h => HFW.out M _ W h h0 hM12 HM.out
      have HM2 : Hid (∀ x ∈ nxt k n M, x < k) := nxt_lt HM.out h0
      have hl12 : (nxt k n M).length ≤ 12 := Nat.le_trans (nxt_len k n M) hn12
      rw [Hl.out] at hW hM12 h0 hst ⊢
      rw [Hp.out] at hown hP HNE ⊢
      obtain ⟨f, Hf, hst1, hst2⟩ := hst
      have HF : Hid (gk = f + 1) := Hf
      clear Hf
      have hl0 : ¬ l = 0 := by omega
      have hd0 : decide (0 < l) = true := by simpa using h0
      obtain ⟨a, Ha⟩ : ∃ a, Hid (n % l = a) := ⟨_, rfl⟩
      have ea : (n : Int).tmod (l : Int) = (a : Int) := by rw [← Ha.out]; rfl
      rw [Ha.out] at hst1 hst2
      by_cases ha : a = 0
      · have hae : ((a : Int) == 0) = true := by simp [ha]
        have HR2 : Hid (Rest k n f Z (P ++ M) (nxt k n M)) := hst1 ha
        have hpm : (P ++ M).length = p + l := by rw [List.length_append, Hp.out, Hl.out]
        have hPM : p + l ≤ 4096 := by rw [← hpm]; exact Nat.le_trans HR2.out.len HZL.out
        clear hst1 hst2 ha hpm
        go_wp2_with (first
          | (at_builtin; refine wpList_append_own _ rfl _ _ 23 rfl g 3 i3 (.int .i64 0) 1 8 und22 ki3 kz0 kz1 kz2 rfl (by decide) _ _ _ rfl hown ⟨bw, 0, none⟩ l wc (nz M) rfl ?c1 hW.news (nz_one _) ?c3 ?c4 ?c5 ?_)
          | go_in)
        case c1 => have := Hl.out; simp [nz]; omega
        case c3 => unfold maxLen; omega
        case c4 => omega
        case c5 => omega
        intro v' w6 hown' hgrow _
        have hb6 : Below g w w6 := hB.grown hgrow (by omega) (fun k hk => (hown.lt k hk).1)
        have hW6 := hW.grown hgrow (fun e => HNE.out bw e.symm rfl)
        rw [show nz P ++ nz M = nz (P ++ M) by simp [nz]] at hown'
        obtain ⟨xa, xc, rfl⟩ := own_formT hown'
        have C := HC.out w6 hW6
        have hpm : (P ++ M).length = p + l := by rw [List.length_append, Hp.out, Hl.out]
        have hNE2 : Hid (∀ b, (Value.slice xa (p + l) xc).ownBlock = some b → b ≠ w6.heap.size) := fun b hb => by
          have := (hown'.lt b hb).2
          omega
        have hs6 := hb6.size
        go_wp2_with (go_at_call 42; refine C.mono ?_; rintro e w7 ⟨⟨y, rfl, hy, ym, yc, rfl⟩, hb7⟩; clear C; have hO7 := own_keep hown' (fun b _ hb => hb7.block b hb))
        obtain rfl : ym = (nxt k n M).length := by obtain ⟨_, _, e, _⟩ := hy; exact (Value.slice.inj e).2.1
        go_roundg f
        case measure => have := HF.out; omega
        case rel => exact ⟨P ++ M, nxt k n M, xa, xc, w6.heap.size, yc, by rw [hpm], rfl, hy, hl12, HM2, HR2, by rw [hpm]; exact hNE2, by rw [hpm]; exact hO7, hb6.trans (hb7.mono (by omega))⟩
      · have hae : ((a : Int) == 0) = false := by simp; omega
        have HR2 : Hid (Rest k n f Z P (nxt k n M)) := hst2 ha
        have C := HC.out wr hW
        clear hst1 hst2 ha
        have hNE2 : Hid (∀ b, (Value.slice oa p oc).ownBlock = some b → b ≠ wr.heap.size) := fun b hb => by
          have := (hown.lt b hb).2
          omega
        go_wp2_with (go_at_call 42; refine C.mono ?_; rintro e w7 ⟨⟨y, rfl, hy, ym, yc, rfl⟩, hb7⟩; clear C; have hO7 := own_keep hown (fun b _ hb => hb7.block b hb))
        obtain rfl : ym = (nxt k n M).length := by obtain ⟨_, _, e, _⟩ := hy; exact (Value.slice.inj e).2.1
        go_roundg f
        case measure => have := HF.out; omega
        case rel => exact ⟨P, nxt k n M, oa, oc, wr.heap.size, yc, by rw [Hp.out], rfl, hy, hl12, HM2, HR2, by rw [Hp.out]; exact hNE2, by rw [Hp.out]; exact hO7, hB.trans (hb7.mono (by omega))⟩
    · obtain rfl : M = [] := List.length_eq_zero_iff.1 (by omega)
      have HZP : Hid (Z = P) := HR.out.nil
      have hO : ORow wr g (.slice oa P.length oc) P := hown
      rw [List.length_nil] at hW ⊢
      go_wp2
      go_ret
      exact ⟨⟨_, rfl, by rw [HZP.out]; exact hO.own⟩, by rw [Hg.out]; exact hB⟩
set_option maxRecDepth 100000 in
set_option maxHeartbeats 4000000 in
theorem Bruijn_any : FBruijn := by
  intro kk nn w
  have C0 := isBase_any kk w
  by_cases hb : kk < 1 ∨ 10 < kk ∨ nn < 1
  · have e1 : bfE kk nn = 1 := by unfold bfE; rw [if_pos hb]
    have e2 : bjZ kk nn = [] := by unfold bjZ; rw [e1]; rfl
    rw [e1, e2]
    by_cases h1 : 1 ≤ kk ∧ kk ≤ 10
    · have hd2 : decide (nn < 1) = true := by simp; omega
      rw [decide_eq_true h1] at C0
      clear h1 hb
      go_enter Tryd.func7, Tryd.ntmps7
      go_wp2_with (go_at_call 21; refine C0.mono ?_; rintro e w' ⟨rfl, rfl⟩; clear C0)
      go_ret2
      exact ⟨⟨_, rfl, Wd.nil _⟩, Below.refl _ _⟩
    · rw [decide_eq_false h1] at C0
      clear h1 hb
      go_enter Tryd.func7, Tryd.ntmps7
      go_wp2_with (go_at_call 21; refine C0.mono ?_; rintro e w' ⟨rfl, rfl⟩; clear C0)
      go_ret2
      exact ⟨⟨_, rfl, Wd.nil _⟩, Below.refl _ _⟩
  · obtain ⟨k, rfl⟩ : ∃ k : Nat, kk = k := ⟨kk.toNat, by omega⟩
    obtain ⟨n, rfl⟩ : ∃ n : Nat, nn = n := ⟨nn.toNat, by omega⟩
    rw [decide_eq_true (by omega)] at C0
    have hd2 : decide ((n : Int) < 1) = false := by simp; omega
    have hk1 : 1 ≤ k := by omega
    have hk10 : k ≤ 10 := by omega
    have hn1 : 1 ≤ n := by omega
    by_cases hn12 : 12 < n
    · have e1 : bfE k n = 3 := by unfold bfE; rw [if_neg hb, if_pos (.inl (by omega))]
      have e2 : bjZ k n = [] := by unfold bjZ; rw [e1]; rfl
      have hd3 : decide ((12 : Int) < (n : Int)) = true := by simp; omega
      rw [e1, e2]
      clear hb
      go_enter Tryd.func7, Tryd.ntmps7
      go_wp2_with (go_at_call 21; refine C0.mono ?_; rintro e w' ⟨rfl, rfl⟩; clear C0)
      go_ret2
      exact ⟨⟨_, rfl, Wd.nil _⟩, Below.refl _ _⟩
    · have hd3 : decide ((12 : Int) < (n : Int)) = false := by simp; omega
      have C1 := fun w => isWithin_any k n 4096 w hk1 (by omega) (by omega) (by omega)
      by_cases h18 : k ^ n ≤ 4096
      · have C2 := fun w => bruijn_any k n w hk1 hk10 hn1 (by omega) h18
        have e1 : bfE k n = 0 := by unfold bfE; rw [if_neg hb, Int.toNat_natCast, Int.toNat_natCast, if_neg (by omega)]
        have e2 : bjZ k n = bjN k n := by unfold bjZ; rw [if_pos e1, Int.toNat_natCast, Int.toNat_natCast]
        rw [e1, e2]
        rw [decide_eq_true h18] at C1
        clear hb h18
        go_enter Tryd.func7, Tryd.ntmps7
        go_wp2_with (first
          | (go_at_call 21; refine C0.mono ?_; rintro e w' ⟨rfl, rfl⟩; clear C0)
          | (go_at_call 22; refine (C1 _).mono ?_; rintro e w' ⟨rfl, rfl⟩; clear C1)
          | (go_at_call 23; refine (C2 _).mono ?_; rintro e w' ⟨⟨y, rfl, hy⟩, hb2⟩; clear C2))
        go_ret2
        exact ⟨⟨_, rfl, hy⟩, hb2⟩
      · have e1 : bfE k n = 3 := by unfold bfE; rw [if_neg hb, Int.toNat_natCast, Int.toNat_natCast, if_pos (by omega)]
        have e2 : bjZ k n = [] := by unfold bjZ; rw [e1]; rfl
        rw [e1, e2]
        rw [decide_eq_false h18] at C1
        clear hb h18
        go_enter Tryd.func7, Tryd.ntmps7
        go_wp2_with (first
          | (go_at_call 21; refine C0.mono ?_; rintro e w' ⟨rfl, rfl⟩; clear C0)
          | (go_at_call 22; refine (C1 _).mono ?_; rintro e w' ⟨rfl, rfl⟩; clear C1))
        go_ret2
        exact ⟨⟨_, rfl, Wd.nil _⟩, Below.refl _ _⟩

end Go.Proofs.YtcjkcgfohmhbcabDoor
