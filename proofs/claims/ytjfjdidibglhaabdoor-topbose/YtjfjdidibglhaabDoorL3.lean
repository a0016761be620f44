/- The walk of Check. -/
import Derived.Test.YtjfjdidibglhaabDoorPBase
import Derived.Test.YtjfjdidibglhaabDoorPList
import Derived.Shelf.Abstract
import Derived.Deep.RegionHeld3
import Derived.Deep.MidRow
/- Intercalates as the program and as the document count them; nothing of the program. -/
/- Hall's choice: rows of a Latin rectangle go on; nothing of the program. -/
namespace Go.Proofs.YtjfjdidibglhaabDoor

theorem lhall_sub {α : Type} [DecidableEq α] : ∀ {A B : List α}, A.Nodup → (∀ x ∈ A, x ∈ B) → A.length ≤ B.length
  | [], _, _, _ => Nat.zero_le _
  | a :: A, B, nd, h => by
    obtain ⟨n1, n2⟩ := List.nodup_cons.1 nd
    have h1 := lhall_sub (B := B.erase a) n2 fun x hx => (List.mem_erase_of_ne fun e => n1 (by rw [← e]; exact hx)).2 (h x (by simp [hx]))
    have h2 := List.length_erase_of_mem (h a (by simp))
    have h3 := List.length_pos_of_mem (h a (by simp))
    rw [List.length_cons]
    omega
theorem inj_nodup {f : Nat → Nat} : ∀ {n : Nat}, (∀ i j, i < n → j < n → f i = f j → i = j) → ((List.range n).map f).Nodup
  | 0, _ => by simp
  | n + 1, h => by
    rw [List.range_succ, List.map_append]
    refine List.nodup_append.2 ⟨inj_nodup fun i j hi hj => h i j (by omega) (by omega), by simp, fun a ha b hb e => ?_⟩
    obtain ⟨i, hi, rfl⟩ := List.mem_map.1 ha
    have hi := List.mem_range.1 hi
    simp at hb
    have := h i n (by omega) (by omega) (e.trans hb)
    omega
theorem inj_onto {n : Nat} {f : Nat → Nat} (hlt : ∀ i, i < n → f i < n) (h : ∀ i j, i < n → j < n → f i = f j → i = j) {x : Nat} (hx : x < n) : ∃ i, i < n ∧ f i = x := by
  refine Classical.byContradiction fun hn => ?_
  have h1 : (x :: (List.range n).map f).Nodup := List.nodup_cons.2 ⟨fun hm => by
    obtain ⟨i, hi, e⟩ := List.mem_map.1 hm
    exact hn ⟨i, List.mem_range.1 hi, e⟩, inj_nodup h⟩
  have h2 := lhall_sub (B := List.range n) h1 fun y hy => by
    rcases List.mem_cons.1 hy with e | e
    · rw [e]; exact List.mem_range.2 hx
    · obtain ⟨i, hi, e⟩ := List.mem_map.1 e
      rw [← e]; exact List.mem_range.2 (hlt i (List.mem_range.1 hi))
  simp at h2
  omega
end Go.Proofs.YtjfjdidibglhaabDoor

/- Lists that are permutations; what makers make; cosets; nothing of the program. -/
/- Lists by their ranks; nothing of the program. -/
/- Ranks: how many are ahead; nothing of the program. -/
/- Signs: by pairs that are the wrong way round, and by cycles; they multiply. -/
namespace Go.Proofs.YtjfjdidibglhaabDoor

def lp (l : List Int) : Int := l.foldr (· * ·) 1
theorem Pm.map_range {n : Nat} {f : Nat → Nat} (P : Pm n f) : ((List.range n).map f).Perm (List.range n) := by
  refine (List.perm_ext_iff_of_nodup ?_ List.nodup_range).2 fun x => ?_
  · rw [List.nodup_iff_pairwise_ne, List.pairwise_map]
    refine List.Pairwise.imp_of_mem (fun {a b} ha hb hab => ?_) List.pairwise_lt_range
    intro e
    have := P.inj _ _ (List.mem_range.1 ha) (List.mem_range.1 hb) e
    omega
  · rw [List.mem_range]
    constructor
    · intro h
      obtain ⟨k, hk, rfl⟩ := List.mem_map.1 h
      exact P.lt k (List.mem_range.1 hk)
    · intro h
      obtain ⟨y, hy, rfl⟩ := P.surj h
      exact List.mem_map.2 ⟨y, List.mem_range.2 hy, rfl⟩
def sw (j m x : Nat) : Nat := if x = j then m else if x = m then j else x
/-! ### By cycles -/
/-! ### By how many cycles have a length -/
/-! ### As the document goes: row by row -/
end Go.Proofs.YtjfjdidibglhaabDoor

namespace Go.Proofs.YtjfjdidibglhaabDoor

def fac : Nat → Nat
  | 0 => 1
  | n + 1 => fac n * (n + 1)
theorem fac_pos : ∀ n, 1 ≤ fac n
  | 0 => by decide
  | n + 1 => Nat.mul_pos (fac_pos n) (by omega)
/-- How many behind place i are less. -/
def les (f : Nat → Nat) (i : Nat) (m : Nat) : Nat := (List.range m).countP fun j => decide (i < j) && decide (f j < f i)
theorem les_succ (f : Nat → Nat) (i m : Nat) : les f i (m + 1) = les f i m + if i < m ∧ f m < f i then 1 else 0 := by
  unfold les
  rw [List.range_succ, List.countP_append, List.countP_singleton]
  by_cases h1 : i < m <;> by_cases h2 : f m < f i <;> simp [h1, h2]
theorem les_le (f : Nat → Nat) (i : Nat) : ∀ m, les f i m ≤ m - (i + 1)
  | 0 => by simp [les]
  | m + 1 => by
    have := les_le f i m
    rw [les_succ]
    split <;> omega
/-- How many less ones stand at none of the first i places. -/
def freP (f : Nat → Nat) (i : Nat) (m : Nat) : Nat := (List.range m).countP fun x => (List.range i).all fun j => f j != x
theorem countP_cut (p : Nat → Bool) (a : Nat) : ∀ n, a ≤ n → (List.range a).countP p = (List.range n).countP fun x => decide (x < a) && p x := by
  intro n h
  induction n with
  | zero => rw [show a = 0 by omega]; rfl
  | succ n ih =>
    by_cases e : a = n + 1
    · subst e
      exact List.countP_congr fun x hx => by simp [List.mem_range.1 hx]
    · rw [List.range_succ, List.countP_append, ← ih (by omega), List.countP_singleton]
      have : decide (n < a) = false := by simp; omega
      simp [this]
theorem fre_les {n : Nat} {f : Nat → Nat} (P : Pm n f) {i : Nat} (hi : i < n) : freP f i (f i) = les f i n := by
  unfold freP les
  rw [countP_cut _ (f i) n (Nat.le_of_lt (P.lt i hi)), ← P.map_range.countP_eq, List.countP_map]
  refine List.countP_congr fun j hj => ?_
  have hj := List.mem_range.1 hj
  show (decide (f j < f i) && (List.range i).all fun j' => f j' != f j) = true ↔ _
  rw [Bool.and_eq_true, Bool.and_eq_true, decide_eq_true_eq, decide_eq_true_eq, List.all_eq_true]
  constructor
  · rintro ⟨h1, h2⟩
    refine ⟨?_, h1⟩
    rcases Nat.lt_trichotomy i j with h | h | h
    · exact h
    · subst h; omega
    · have := h2 j (List.mem_range.2 h); simp at this
  · rintro ⟨h1, h2⟩
    refine ⟨h2, fun j' hj' => ?_⟩
    have hj' := List.mem_range.1 hj'
    simp only [bne_iff_ne, ne_eq]
    intro e
    have := P.inj j' j (by omega) hj e
    omega
/-- The sum till place k. -/
def rkS (n : Nat) (f : Nat → Nat) : Nat → Nat
  | 0 => 0
  | k + 1 => rkS n f k + les f k n * fac (n - 1 - k)
end Go.Proofs.YtjfjdidibglhaabDoor

namespace Go.Proofs.YtjfjdidibglhaabDoor

/-- Of what is left the one with so many ahead, and so on. -/
def unrL : Nat → List Nat → Nat → List Nat
  | 0, _, _ => []
  | m + 1, left, k => left.getD (k / fac m) 0 :: unrL m (left.eraseIdx (k / fac m)) (k % fac m)
theorem div_fac {k m : Nat} (h : k < fac (m + 1)) : k / fac m < m + 1 := by
  rw [Nat.div_lt_iff_lt_mul (fac_pos m)]
  rw [fac, Nat.mul_comm] at h
  exact h
theorem mod_fac (k m : Nat) : k % fac m < fac m := Nat.mod_lt _ (fac_pos m)

/-- What is not used. -/
def lf (n : Nat) (u : Nat → Bool) : List Nat := (List.range n).filter fun x => !u x
theorem lf_succ (n : Nat) (u : Nat → Bool) : lf (n + 1) u = lf n u ++ if u n then [] else [n] := by
  unfold lf
  rw [List.range_succ, List.filter_append]
  cases h : u n <;> simp [h]
theorem lf_none (n : Nat) : lf n (fun _ => false) = List.range n := by
  unfold lf; simp
def upU (u : Nat → Bool) (i : Nat) : Nat → Bool := fun j => if j = i then true else u j
theorem lf_low {u : Nat → Bool} {x : Nat} : ∀ n, n ≤ x → lf n (upU u x) = lf n u
  | 0, _ => rfl
  | n + 1, h => by
    rw [lf_succ, lf_succ, lf_low n (by omega)]
    have : upU u x n = u n := by unfold upU; rw [if_neg (by omega)]
    rw [this]
/-- Behind x the lists go on alike. -/
theorem lf_split {u : Nat → Bool} {x : Nat} (hu : u x = false) : ∀ n, x < n → ∃ B, lf n u = lf x u ++ x :: B ∧ lf n (upU u x) = lf x u ++ B := by
  intro n
  induction n with
  | zero => intro h; omega
  | succ n ih =>
    intro h
    by_cases e : x = n
    · subst e
      refine ⟨[], ?_, ?_⟩
      · rw [lf_succ, hu]; simp
      · rw [lf_succ, lf_low x (Nat.le_refl _)]
        have : upU u x x = true := by unfold upU; rw [if_pos rfl]
        rw [this]; simp
    · obtain ⟨B, h1, h2⟩ := ih (by omega)
      refine ⟨B ++ if u n then [] else [n], ?_, ?_⟩
      · rw [lf_succ, h1, List.append_assoc, List.cons_append]
      · rw [lf_succ, h2]
        have : upU u x n = u n := by unfold upU; rw [if_neg (fun e' => e e'.symm)]
        rw [this, List.append_assoc]
theorem lf_at {u : Nat → Bool} {x n s : Nat} (hu : u x = false) (hx : x < n) (hs : (lf x u).length = s) : (lf n u).getD s 0 = x ∧ lf n (upU u x) = (lf n u).eraseIdx s ∧ s < (lf n u).length := by
  obtain ⟨B, h1, h2⟩ := lf_split hu n hx
  subst hs
  refine ⟨?_, ?_, ?_⟩
  · rw [h1]; simp
  · rw [h1, h2, List.eraseIdx_append_of_length_le (Nat.le_refl _)]; simp
  · rw [h1, List.length_append, List.length_cons]; omega
/-- What is left behind the first i places of a permutation. -/
def usd (f : Nat → Nat) (i : Nat) : Nat → Bool := fun x => (List.range i).any fun j => f j == x
theorem usd_succ (f : Nat → Nat) (i x : Nat) : usd f (i + 1) x = upU (usd f i) (f i) x := by
  unfold usd upU
  rw [List.range_succ, List.any_append]
  by_cases h : x = f i
  · subst h; simp
  · rw [if_neg h]; simp [Ne.symm h]
theorem lf_congr {n : Nat} {u v : Nat → Bool} (h : ∀ x, x < n → u x = v x) : lf n u = lf n v := by
  unfold lf
  exact List.filter_congr fun x hx => by rw [h x (List.mem_range.1 hx)]
theorem usd_self {n : Nat} {f : Nat → Nat} (P : Pm n f) {i : Nat} (hi : i < n) : usd f i (f i) = false := by
  unfold usd
  rw [List.any_eq_false]
  intro j hj
  have hj := List.mem_range.1 hj
  simp only [beq_iff_eq]
  intro e
  have := P.inj j i (by omega) hi e
  omega
theorem lf_fre (f : Nat → Nat) (i m : Nat) : (lf m (usd f i)).length = freP f i m := by
  unfold lf freP usd
  rw [← List.countP_eq_length_filter]
  refine List.countP_congr fun x _ => ?_
  rw [Bool.not_eq_true', List.any_eq_false, List.all_eq_true]
  constructor
  · intro h j hj
    have := h j hj
    simpa using this
  · intro h j hj
    have := h j hj
    simpa using this
/-- What the places from i on weigh. -/
def rkT (n : Nat) (f : Nat → Nat) : Nat → Nat → Nat
  | 0, _ => 0
  | m + 1, i => les f i n * fac m + rkT n f m (i + 1)
theorem rkT_lt (n : Nat) (f : Nat → Nat) : ∀ m i, i + m = n → rkT n f m i < fac m
  | 0, _, _ => by rw [rkT, fac]; omega
  | m + 1, i, h => by
    have h1 := rkT_lt n f m (i + 1) (by omega)
    have h2 := les_le f i n
    have h3 : les f i n * fac m ≤ m * fac m := Nat.mul_le_mul_right _ (by omega)
    have h4 : fac (m + 1) = m * fac m + fac m := by rw [fac, Nat.mul_comm, Nat.succ_mul]
    rw [rkT, h4]
    omega
theorem rkS_rkT (n : Nat) (f : Nat → Nat) : ∀ m i, i + m = n → rkS n f n = rkS n f i + rkT n f m i
  | 0, i, h => by rw [show i = n by omega, rkT]; omega
  | m + 1, i, h => by
    rw [rkS_rkT n f m (i + 1) (by omega), rkS, rkT, show n - 1 - i = m by omega]; omega
theorem rank_lt (n : Nat) (f : Nat → Nat) : rkS n f n < fac n := by
  rw [rkS_rkT n f n 0 (by omega), rkS]
  have := rkT_lt n f n 0 (by omega)
  omega
theorem unr_back {n : Nat} {f : Nat → Nat} (P : Pm n f) : ∀ m i, i + m = n → unrL m (lf n (usd f i)) (rkT n f m i) = (List.range' i m).map f
  | 0, _, _ => rfl
  | m + 1, i, h => by
    have hi : i < n := by omega
    have h1 := rkT_lt n f m (i + 1) (by omega)
    have hd : rkT n f (m + 1) i / fac m = les f i n := by
      rw [rkT, Nat.mul_comm, Nat.mul_add_div (fac_pos m), Nat.div_eq_of_lt h1, Nat.add_zero]
    have hm : rkT n f (m + 1) i % fac m = rkT n f m (i + 1) := by
      rw [rkT, Nat.mul_comm, Nat.mul_add_mod, Nat.mod_eq_of_lt h1]
    have hs : (lf (f i) (usd f i)).length = les f i n := by rw [lf_fre, fre_les P hi]
    obtain ⟨a1, a2, _⟩ := lf_at (usd_self P hi) (P.lt i hi) hs
    rw [unrL, hd, hm, a1, ← a2, List.range'_succ, List.map_cons]
    congr 1
    rw [lf_congr (v := usd f (i + 1)) (fun x _ => (usd_succ f i x).symm)]
    exact unr_back P m (i + 1) (by omega)
/-- Ranked and unranked is the same. -/
theorem unr_rank {n : Nat} {f : Nat → Nat} (P : Pm n f) : unrL n (List.range n) (rkS n f n) = (List.range n).map f := by
  have h := unr_back P n 0 (by omega)
  have h0 : lf n (usd f 0) = List.range n := by
    rw [lf_congr (u := usd f 0) (v := fun _ => false) (fun x _ => rfl), lf_none]
  rw [h0] at h
  rw [rkS_rkT n f n 0 (by omega), rkS, Nat.zero_add, h, List.range_eq_range']

end Go.Proofs.YtjfjdidibglhaabDoor

namespace Go.Proofs.YtjfjdidibglhaabDoor

structure IsP (n : Nat) (l : List Nat) : Prop where
  len : l.length = n
  lt : ∀ x ∈ l, x < n
  nd : l.Nodup
theorem IsP.at {n : Nat} {l : List Nat} (h : IsP n l) {i : Nat} (hi : i < n) : l.getD i 0 < n := by
  have : i < l.length := by rw [h.len]; exact hi
  exact h.lt _ (by simp [List.getD_eq_getElem?_getD, this])
theorem IsP.pm {n : Nat} {l : List Nat} (h : IsP n l) : Pm n (fun i => l.getD i 0) := by
  refine ⟨fun i hi => h.at hi, fun i j hi hj e => ?_⟩
  have h1 : i < l.length := by rw [h.len]; exact hi
  have h2 : j < l.length := by rw [h.len]; exact hj
  have e' : l[i] = l[j] := by simpa [List.getD_eq_getElem?_getD, h1, h2] using e
  exact (List.getElem_inj h.nd).1 e'
theorem IsP.map {n : Nat} {l : List Nat} (h : IsP n l) : (List.range n).map (fun i => l.getD i 0) = l := by
  apply List.ext_getElem
  · simp [h.len]
  · intro i h1 h2
    simp [List.getD_eq_getElem?_getD, h2]
theorem isP_of {n : Nat} {f : Nat → Nat} (P : Pm n f) : IsP n ((List.range n).map f) := by
  refine ⟨by simp, fun x hx => ?_, ?_⟩
  · obtain ⟨i, hi, rfl⟩ := List.mem_map.1 hx
    exact P.lt i (List.mem_range.1 hi)
  · rw [List.nodup_iff_pairwise_ne, List.pairwise_map]
    refine List.Pairwise.imp_of_mem (fun {a b} ha hb hab => ?_) List.pairwise_lt_range
    intro e
    have := P.inj a b (List.mem_range.1 ha) (List.mem_range.1 hb) e
    omega
theorem isP_ext {n : Nat} {a b : List Nat} (ha : a.length = n) (hb : b.length = n) (h : ∀ i, i < n → a.getD i 0 = b.getD i 0) : a = b := by
  apply List.ext_getElem
  · rw [ha, hb]
  · intro i h1 h2
    have := h i (by omega)
    simpa [List.getD_eq_getElem?_getD, h1, h2] using this

def thenL (a b : List Nat) : List Nat := a.map fun x => b.getD x 0
theorem thenL_len (a b : List Nat) : (thenL a b).length = a.length := by simp [thenL]
theorem thenL_at {n : Nat} {a b : List Nat} (ha : a.length = n) {i : Nat} (hi : i < n) : (thenL a b).getD i 0 = b.getD (a.getD i 0) 0 := by
  have : i < a.length := by omega
  simp [thenL, List.getD_eq_getElem?_getD, this]
theorem IsP.then {n : Nat} {a b : List Nat} (ha : IsP n a) (hb : IsP n b) : IsP n (thenL a b) := by
  have h := isP_of (ha.pm.comp hb.pm)
  have e : (List.range n).map (fun x => b.getD (a.getD x 0) 0) = thenL a b := by
    refine isP_ext (n := n) (by simp) (by rw [thenL_len, ha.len]) fun i hi => ?_
    rw [thenL_at ha.len hi]
    simp [hi]
  rw [← e]; exact h
def idL (n : Nat) : List Nat := List.range n
theorem idL_at {n i : Nat} (hi : i < n) : (idL n).getD i 0 = i := by simp [idL, hi]
theorem isP_id (n : Nat) : IsP n (idL n) := by
  have := isP_of (Pm.id n)
  simpa [idL] using this
theorem then_assoc {n : Nat} {a b c : List Nat} (ha : IsP n a) (hb : b.length = n) : thenL (thenL a b) c = thenL a (thenL b c) := by
  refine isP_ext (n := n) (by rw [thenL_len, thenL_len, ha.len]) (by rw [thenL_len, ha.len]) fun i hi => ?_
  rw [thenL_at (by rw [thenL_len, ha.len]) hi, thenL_at ha.len hi, thenL_at ha.len hi, thenL_at hb (ha.at hi)]
theorem then_id {n : Nat} {a : List Nat} (ha : IsP n a) : thenL a (idL n) = a :=
  isP_ext (n := n) (by rw [thenL_len, ha.len]) ha.len fun i hi => by rw [thenL_at ha.len hi, idL_at (ha.at hi)]

/-! ### powers, and undoing -/
def powL (n : Nat) (a : List Nat) : Nat → List Nat
  | 0 => idL n
  | k + 1 => thenL (powL n a k) a
/-- What undoes a. -/
def invL (n : Nat) (a : List Nat) : List Nat := powL n a (fac n - 1)
/-! ### all of them, by rank -/
theorem eraseIdx_perm {l : List Nat} {i : Nat} (h : i < l.length) : (l.getD i 0 :: l.eraseIdx i).Perm l := by
  rw [List.getD_eq_getElem?_getD, List.getElem?_eq_getElem h, Option.getD_some, List.eraseIdx_eq_take_drop_succ]
  have e : l = l.take i ++ l[i] :: l.drop (i + 1) := by rw [← List.drop_eq_getElem_cons h, List.take_append_drop]
  conv => rhs; rw [e]
  exact List.perm_middle.symm
theorem unrL_perm : ∀ (m : Nat) (left : List Nat) (k : Nat), left.length = m → k < fac m → (unrL m left k).Perm left
  | 0, left, k, h, _ => by rw [List.length_eq_zero_iff.1 h]; exact List.Perm.refl _
  | m + 1, left, k, h, hk => by
    have hd := div_fac hk
    rw [unrL]
    refine (List.Perm.cons _ (unrL_perm m _ _ ?_ (mod_fac k m))).trans (eraseIdx_perm (by omega))
    rw [List.length_eraseIdx_of_lt (by omega), h]; omega
def unr (n k : Nat) : List Nat := unrL n (List.range n) k
theorem unr_isP {n k : Nat} (hk : k < fac n) : IsP n (unr n k) := by
  have h := unrL_perm n (List.range n) k (by simp) hk
  exact ⟨by rw [unr, h.length_eq]; simp, fun x hx => List.mem_range.1 (h.mem_iff.1 hx), h.nodup_iff.2 List.nodup_range⟩
def rnk (n : Nat) (l : List Nat) : Nat := rkS n (fun i => l.getD i 0) n
theorem rnk_lt (n : Nat) (l : List Nat) : rnk n l < fac n := rank_lt n _
theorem unr_rnk {n : Nat} {l : List Nat} (h : IsP n l) : unr n (rnk n l) = l := by
  have := unr_rank h.pm
  rw [h.map] at this
  exact this
/-! ### what makers make -/
inductive Gen (n : Nat) (ms : List (List Nat)) : List Nat → Prop
  | one : Gen n ms (idL n)
  | step (a m : List Nat) : Gen n ms a → m ∈ ms → Gen n ms (thenL a m)
theorem Gen.isP {n : Nat} {ms : List (List Nat)} (hm : ∀ m ∈ ms, IsP n m) {a : List Nat} (h : Gen n ms a) : IsP n a := by
  induction h with
  | one => exact isP_id n
  | step a m _ h2 ih => exact ih.then (hm m h2)
theorem Gen.then {n : Nat} {ms : List (List Nat)} (hm : ∀ m ∈ ms, IsP n m) {a b : List Nat} (ha : Gen n ms a) (hb : Gen n ms b) : Gen n ms (thenL a b) := by
  induction hb with
  | one => rw [then_id (ha.isP hm)]; exact ha
  | step b m h1 h2 ih =>
    rw [← then_assoc (ha.isP hm) (h1.isP hm).len]
    exact .step _ m ih h2
theorem Gen.pow {n : Nat} {ms : List (List Nat)} (hm : ∀ m ∈ ms, IsP n m) {a : List Nat} (ha : Gen n ms a) : ∀ k, Gen n ms (powL n a k)
  | 0 => .one
  | k + 1 => (ha.pow hm k).then hm ha
theorem Gen.inv {n : Nat} {ms : List (List Nat)} (hm : ∀ m ∈ ms, IsP n m) {a : List Nat} (ha : Gen n ms a) : Gen n ms (invL n a) := ha.pow hm _
theorem Gen.mono {n : Nat} {ms ms' : List (List Nat)} (h : ∀ m ∈ ms, m ∈ ms') {a : List Nat} (ha : Gen n ms a) : Gen n ms' a := by
  induction ha with
  | one => exact .one
  | step a m _ h2 ih => exact .step a m ih (h m h2)

/-! ### counting -/
open Classical in
/-- The members, by their ranks. -/
noncomputable def els (n : Nat) (G : List Nat → Prop) : List (List Nat) := ((List.range (fac n)).map (unr n)).filter fun l => decide (G l)
open Classical in
theorem mem_els {n : Nat} {G : List Nat → Prop} {l : List Nat} : l ∈ els n G ↔ IsP n l ∧ G l := by
  unfold els
  rw [List.mem_filter, List.mem_map]
  constructor
  · rintro ⟨⟨k, hk, rfl⟩, h⟩
    exact ⟨unr_isP (List.mem_range.1 hk), of_decide_eq_true h⟩
  · rintro ⟨h1, h2⟩
    exact ⟨⟨rnk n l, List.mem_range.2 (rnk_lt n l), unr_rnk h1⟩, decide_eq_true h2⟩
/-- A group of permutations of n points. -/
structure Grp (n : Nat) (G : List Nat → Prop) : Prop where
  isP : ∀ a, G a → IsP n a
  one : G (idL n)
  mul : ∀ a b, G a → G b → G (thenL a b)
theorem Grp.pow {n : Nat} {G : List Nat → Prop} (h : Grp n G) {a : List Nat} (ha : G a) : ∀ k, G (powL n a k)
  | 0 => h.one
  | k + 1 => h.mul _ _ (h.pow ha k) ha
theorem Grp.inv {n : Nat} {G : List Nat → Prop} (h : Grp n G) {a : List Nat} (ha : G a) : G (invL n a) := h.pow ha _
theorem Grp.mem {n : Nat} {G : List Nat → Prop} (h : Grp n G) {a : List Nat} : a ∈ els n G ↔ G a := by
  rw [mem_els]; exact ⟨fun x => x.2, fun x => ⟨h.isP a x, x⟩⟩
end Go.Proofs.YtjfjdidibglhaabDoor

/- Latin squares and what turns their triples round: as many transversals, as many intercalates; nothing of the program. -/
namespace Go.Proofs.YtjfjdidibglhaabDoor

/-- A Latin square. -/
structure Lat (n : Nat) (s : Nat → Nat → Nat) : Prop where
  lt : ∀ i j, i < n → j < n → s i j < n
  row : ∀ i, i < n → ∀ j k, j < n → k < n → s i j = s i k → j = k
  col : ∀ j, j < n → ∀ i k, i < n → k < n → s i j = s k j → i = k
theorem Lat.onto {n : Nat} {s : Nat → Nat → Nat} (h : Lat n s) {i x : Nat} (hi : i < n) (hx : x < n) : ∃ j, j < n ∧ s i j = x := inj_onto (fun j hj => h.lt i j hi hj) (h.row i hi) hx
/-- Numbers and columns change their parts. -/
def C1 (n : Nat) (s s' : Nat → Nat → Nat) : Prop := ∀ i j, i < n → j < n → s' i (s i j) = j
/-- Rows and columns change their parts. -/
def C2 (n : Nat) (s s' : Nat → Nat → Nat) : Prop := ∀ i j, i < n → j < n → s' j i = s i j
theorem C1.symm {n : Nat} {s s' : Nat → Nat → Nat} (L : Lat n s) (h : C1 n s s') : C1 n s' s := fun i x hi hx => by
  obtain ⟨j, hj, rfl⟩ := L.onto hi hx
  rw [h i j hi hj]
theorem C2.symm {n : Nat} {s s' : Nat → Nat → Nat} (h : C2 n s s') : C2 n s' s := fun i j hi hj => (h j i hj hi).symm
theorem C1.lat {n : Nat} {s s' : Nat → Nat → Nat} (L : Lat n s) (h : C1 n s s') : Lat n s' := by
  have hb := h.symm L
  refine ⟨fun i x hi hx => ?_, fun i hi x y hx hy e => ?_, fun x hx i k hi hk e => ?_⟩
  · obtain ⟨j, hj, rfl⟩ := L.onto hi hx
    rw [h i j hi hj]; exact hj
  · rw [← hb i x hi hx, ← hb i y hi hy, e]
  · obtain ⟨j, hj, ej⟩ := L.onto hi hx
    have h1 : s' i x = j := by rw [← ej]; exact h i j hi hj
    have h2 := hb k x hk hx
    rw [← e, h1] at h2
    exact L.col j hj i k hi hk (ej.trans h2.symm)
theorem C2.lat {n : Nat} {s s' : Nat → Nat → Nat} (L : Lat n s) (h : C2 n s s') : Lat n s' :=
  ⟨fun i j hi hj => by rw [h j i hj hi]; exact L.lt j i hj hi, fun i hi j k hj hk e => by rw [h j i hj hi, h k i hk hi] at e; exact L.col i hi j k hj hk e, fun j hj i k hi hk e => by rw [h j i hj hi, h j k hj hk] at e; exact L.row j hj i k hi hk e⟩

end Go.Proofs.YtjfjdidibglhaabDoor

/- Transversals counted row by row: as many as there are among all orders; nothing of the program. -/
namespace Go.Proofs.YtjfjdidibglhaabDoor

/-- Chosen so far, one cell in each row: columns unlike, numbers unlike. -/
structure Ch (n : Nat) (s : Nat → Nat → Nat) (a : List Nat) : Prop where
  lt : ∀ i, i < a.length → a.getD i 0 < n
  nd : ∀ i j, i < a.length → j < a.length → a.getD i 0 = a.getD j 0 → i = j
  un : ∀ i j, i < a.length → j < a.length → s i (a.getD i 0) = s j (a.getD j 0) → i = j
theorem Ch.nil (n : Nat) (s : Nat → Nat → Nat) : Ch n s [] := ⟨fun i h => by simp at h, fun i j h => by simp at h, fun i j h => by simp at h⟩
end Go.Proofs.YtjfjdidibglhaabDoor

namespace Go.Proofs.YtjfjdidibglhaabDoor

end Go.Proofs.YtjfjdidibglhaabDoor

/- The first square of some rows, cell by cell, is had row by row; nothing of the program. -/
/- Cells of a Latin square, row by row: filled on by the least numbers; a rectangle goes on; nothing of the program. -/
namespace Go.Proofs.YtjfjdidibglhaabDoor

/-- No number stands twice in a row or column of what there is. -/
structure Part (n : Nat) (l : List Nat) : Prop where
  lt : ∀ x ∈ l, x < n
  once : ∀ i k, k < i → i < l.length → l.getD k 0 = l.getD i 0 → k / n ≠ i / n ∧ k % n ≠ i % n
theorem Part.nil (n : Nat) : Part n [] := ⟨fun x h => by simp at h, fun i k _ h => by simp at h⟩
theorem getD_left {l m : List Nat} {i : Nat} (h : i < l.length) : (l ++ m).getD i 0 = l.getD i 0 := by
  simp [List.getD_eq_getElem?_getD, List.getElem?_append_left h]
theorem Part.left {n : Nat} {l m : List Nat} (h : Part n (l ++ m)) : Part n l :=
  ⟨fun x hx => h.lt x (by simp [hx]), fun i k hk hi e => h.once i k hk (by rw [List.length_append]; omega) (by rw [getD_left (by omega), getD_left hi]; exact e)⟩
theorem divmod {n i j : Nat} (hj : j < n) : (i * n + j) / n = i ∧ (i * n + j) % n = j := by
  have h0 : 0 < n := by omega
  constructor
  · rw [Nat.mul_comm, Nat.mul_add_div h0, Nat.div_eq_of_lt hj, Nat.add_zero]
  · rw [Nat.mul_comm, Nat.mul_add_mod, Nat.mod_eq_of_lt hj]
end Go.Proofs.YtjfjdidibglhaabDoor

namespace Go.Proofs.YtjfjdidibglhaabDoor

end Go.Proofs.YtjfjdidibglhaabDoor

/- The walk of apart. -/
/- What is wrong with a square, with rows: as the document looks, as the program looks; nothing of the program. -/
namespace Go.Proofs.YtjfjdidibglhaabDoor

/-- The number in a row and column of what stands row by row. -/
def sq (n : Nat) (L : List Int) (i j : Nat) : Nat := (L.getD (i * n + j) 0).toNat
/-- No number twice in a row or column. -/
def Ap (m n : Nat) (t : Nat → Nat → Nat) : Prop := ∀ i j i' j', i < m → j < n → i' < m → j' < n → t i j = t i' j' → (i = i' → j = j') ∧ (j = j' → i = i')
def onB (n : Nat) (L : List Int) : Bool := (List.range L.length).all fun i => (List.range i).all fun k => !(L.getD i 0 == L.getD k 0 && (i / n == k / n || i % n == k % n))
theorem onB_iff {n : Nat} {L : List Int} : onB n L = true ↔ ∀ i k, k < i → i < L.length → L.getD i 0 = L.getD k 0 → i / n ≠ k / n ∧ i % n ≠ k % n := by
  unfold onB
  rw [List.all_eq_true]
  constructor
  · intro h i k hk hi e
    have h1 := h i (List.mem_range.2 hi)
    rw [List.all_eq_true] at h1
    have h2 := h1 k (List.mem_range.2 hk)
    simp only [e, beq_self_eq_true, Bool.true_and, Bool.not_eq_true', Bool.or_eq_false_iff, beq_eq_false_iff_ne] at h2
    exact h2
  · intro h i hi
    rw [List.all_eq_true]
    intro k hk
    have hi := List.mem_range.1 hi
    have hk := List.mem_range.1 hk
    by_cases e : L.getD i 0 = L.getD k 0
    · have := h i k hk hi e
      simp only [e, beq_self_eq_true, Bool.true_and, Bool.not_eq_true', Bool.or_eq_false_iff, beq_eq_false_iff_ne]
      exact this
    · have : (L.getD i 0 == L.getD k 0) = false := beq_eq_false_iff_ne.2 e
      rw [this]; rfl
theorem cell_lt {m n i j : Nat} (hi : i < m) (hj : j < n) : i * n + j < m * n := by
  have : (i + 1) * n ≤ m * n := Nat.mul_le_mul_right n hi
  rw [Nat.add_mul] at this
  omega
theorem onB_ap {m n : Nat} {L : List Int} (hl : L.length = m * n) (h0 : ∀ j, j < L.length → 0 ≤ L.getD j 0) : onB n L = true ↔ Ap m n (sq n L) := by
  rw [onB_iff]
  have key : ∀ a b, a < L.length → b < L.length → (L.getD a 0).toNat = (L.getD b 0).toNat → L.getD a 0 = L.getD b 0 := fun a b ha hb e => by
    have := h0 a ha; have := h0 b hb; omega
  constructor
  · intro h i j i' j' hi hj hi' hj' e
    have l1 := cell_lt hi hj
    have l2 := cell_lt hi' hj'
    have e' := key _ _ (by omega) (by omega) e
    have d1 := divmod (i := i) hj
    have d2 := divmod (i := i') hj'
    rcases Nat.lt_trichotomy (i * n + j) (i' * n + j') with hlt | heq | hgt
    · have := h _ _ hlt (by omega) e'.symm
      rw [d1.1, d1.2, d2.1, d2.2] at this
      exact ⟨fun x => absurd x.symm this.1, fun x => absurd x.symm this.2⟩
    · have a1 := d1.1; have a2 := d1.2
      rw [heq, d2.1] at a1
      rw [heq, d2.2] at a2
      exact ⟨fun _ => a2.symm, fun _ => a1.symm⟩
    · have := h _ _ hgt (by omega) e'
      rw [d1.1, d1.2, d2.1, d2.2] at this
      exact ⟨fun x => absurd x this.1, fun x => absurd x this.2⟩
  · intro h i k hk hi e
    have hn : 0 < n := by
      rcases Nat.eq_zero_or_pos n with h | h
      · subst h; omega
      · exact h
    have c1 : i / n < m := Nat.div_lt_of_lt_mul (by rw [Nat.mul_comm]; omega)
    have c2 : k / n < m := Nat.div_lt_of_lt_mul (by rw [Nat.mul_comm]; omega)
    have e1 : i / n * n + i % n = i := Nat.div_add_mod' i n
    have e2 : k / n * n + k % n = k := Nat.div_add_mod' k n
    have := h (i / n) (i % n) (k / n) (k % n) c1 (Nat.mod_lt _ hn) c2 (Nat.mod_lt _ hn) (by unfold sq; rw [e1, e2, e])
    constructor
    · intro x
      have := this.1 x
      rw [x, this, e2] at e1
      omega
    · intro x
      have := this.2 x
      rw [x, this, e2] at e1
      omega
theorem lat_ap {n : Nat} {t : Nat → Nat → Nat} (h : Lat n t) : Ap n n t := fun i j i' j' hi hj hi' hj' e =>
  ⟨fun x => by subst x; exact h.row i hi j j' hj hj' e, fun x => by subst x; exact h.col j hj i i' hi hi' e⟩
/-- What is wrong with a square. -/
def lF (s : Int) (L : List Int) : Nat := if s < 1 ∨ 8 < s then 1 else if (L.length : Int) ≠ s * s then 2 else if inLB s L = false then 1 else if onB s.toNat L then 0 else 6
structure GoodSq (n : Nat) (L : List Int) : Prop where
  pos : 0 < n
  le : n ≤ 8
  len : L.length = n * n
  at0 : ∀ j, j < n * n → 0 ≤ L.getD j 0 ∧ L.getD j 0 < n
  lat : Lat n (sq n L)
theorem GoodSq.val {n : Nat} {L : List Int} (h : GoodSq n L) {i j : Nat} (hi : i < n) (hj : j < n) : L.getD (i * n + j) 0 = (sq n L i j : Int) := by
  have := (h.at0 _ (cell_lt hi hj)).1
  unfold sq; omega
theorem lF_good {n : Nat} {L : List Int} (h : GoodSq n L) : lF n L = 0 := by
  unfold lF
  have h1 := h.pos; have h2 := h.le
  rw [if_neg (by omega), if_neg (by rw [h.len]; simp), if_neg (by
    have : inLB n L = true := by rw [inLB_iff]; intro j hj; exact h.at0 j (by rw [← h.len]; exact hj)
    rw [this]; simp), if_pos]
  have hn : ((n : Int)).toNat = n := by omega
  rw [hn, onB_ap h.len fun j hj => (h.at0 j (by rw [← h.len]; exact hj)).1]
  exact lat_ap h.lat
end Go.Proofs.YtjfjdidibglhaabDoor

/- The walks of isSide, isOf; tellers; asked; those who tell what comes for the first time. -/
namespace Go.Proofs.YtjfjdidibglhaabDoor
open Go.RowKit

def sideB (n : Int) : Bool := decide (1 ≤ n) && decide (n ≤ 8)
def ofB (n x : Int) : Bool := decide (0 ≤ x) && decide (x < n)
theorem isSide_any (n : Int) (w : World) : Calls Tryd.prog 105 #[.int .i64 n] w fun e w' => e = .returned (.bool (sideB n)) ∧ w' = w := by
  unfold sideB
  by_cases h : 1 ≤ n
  · have hd : decide (1 ≤ n) = true := decide_eq_true h
    by_cases h2 : n ≤ 8
    · have hd2 : decide (n ≤ 8) = true := decide_eq_true h2
      go_enter Tryd.func105, Tryd.ntmps105
      go_wp2
      go_ret
      simp [hd, hd2]
    · have hd2 : decide (n ≤ 8) = false := decide_eq_false h2
      go_enter Tryd.func105, Tryd.ntmps105
      go_wp2
      go_ret
      simp
  · have hd : decide (1 ≤ n) = false := decide_eq_false h
    go_enter Tryd.func105, Tryd.ntmps105
    go_wp2
    go_ret
    simp
theorem isOf_any (n x : Int) (w : World) : Calls Tryd.prog 106 #[.int .i64 n, .int .i64 x] w fun e w' => e = .returned (.bool (ofB n x)) ∧ w' = w := by
  unfold ofB
  by_cases h : 0 ≤ x
  · have hd : decide (0 ≤ x) = true := decide_eq_true h
    by_cases h2 : x < n
    · have hd2 : decide (x < n) = true := decide_eq_true h2
      go_enter Tryd.func106, Tryd.ntmps106
      go_wp2
      go_ret
      simp [hd, hd2]
    · have hd2 : decide (x < n) = false := decide_eq_false h2
      go_enter Tryd.func106, Tryd.ntmps106
      go_wp2
      go_ret
      simp
  · have hd : decide (0 ≤ x) = false := decide_eq_false h
    go_enter Tryd.func106, Tryd.ntmps106
    go_wp2
    go_ret
    simp

/-- The function tells the number in each place. -/
def TellAt (g : Nat) (lb : Array Value) (m n : Nat) (t : Nat → Nat → Nat) (w : World) : Prop :=
  ∀ W : World, Below w.heap.size w W → ∀ r c : Nat, r < m → c < n → Calls Tryd.prog g (#[.int .i64 (r : Int), .int .i64 (c : Int)] ++ lb) W fun e w' => e = .returned (.int .i64 (t r c : Int)) ∧ Below W.heap.size W w'
def Teller (v : Value) (m n : Nat) (t : Nat → Nat → Nat) (w : World) : Prop :=
  ∃ g lb, v = .func (.func g) #[] lb ∧ (∀ args w, (callFunc g args).run Tryd.prog w = .ok (.enter g args) w) ∧ TellAt g lb m n t w
theorem Teller.below {v : Value} {m n : Nat} {t : Nat → Nat → Nat} {w W : World} (h : Teller v m n t w) (hb : Below w.heap.size w W) : Teller v m n t W := by
  obtain ⟨g, lb, rfl, e, h⟩ := h
  exact ⟨g, lb, rfl, e, fun W' b r c hr hc => h W' (Below.next hb b) r c hr hc⟩
theorem Teller.congr {v : Value} {m n : Nat} {t t' : Nat → Nat → Nat} {w : World} (h : Teller v m n t w) (he : ∀ r c, r < m → c < n → t r c = t' r c) : Teller v m n t' w := by
  obtain ⟨g, lb, rfl, e, h⟩ := h
  exact ⟨g, lb, rfl, e, fun W' b r c hr hc => by rw [← he r c hr hc]; exact h W' b r c hr hc⟩

theorem e36 : ∀ args w, (callFunc 121 args).run Tryd.prog w = .ok (.enter 121 args) w := enters_of Tryd.func121 (by kernel_rfl) rfl
set_option maxHeartbeats 1000000 in
theorem asked1_any (m n : Nat) (L : List Int) (v : Value) (w W : World) (b : Nat) (hv : Sl w v L) (hl : L.length = m * n) (hm : m ≤ 8) (hn : n ≤ 8) (h0 : ∀ j, j < m * n → 0 ≤ L.getD j 0)
    (hbx : w.heap[b]? = some (.cells #[.int .i64 (n : Int), v] 39 (0, 0))) (hB : Below w.heap.size w W) (r c : Nat) (hr : r < m) (hc : c < n) :
    Calls Tryd.prog 121 #[.int .i64 (r : Int), .int .i64 (c : Int), .pointer (some ⟨b, 0, none⟩)] W fun e w' => e = .returned (.int .i64 (sq n L r c : Int)) ∧ Below W.heap.size W w' := by
  have hlt := cell_lt hr hc
  obtain ⟨a, off, cap, rfl, ha, hcell⟩ := (hv.below hB).form hl (by omega)
  have hbl : b < w.heap.size := (Array.getElem?_eq_some_iff.1 hbx).1
  have hbx' := (hB.block b hbl).trans hbx
  have h1 : W.cell? ⟨b, 0, none⟩ = some (.int .i64 (n : Int)) := by rw [cell_of_row _ _ _ _ _ _ hbx']; rfl
  have h2 : W.cell? ⟨b, 1, none⟩ = some (.slice (some ⟨a, off, none⟩) (m * n) cap) := by rw [cell_of_row _ _ _ _ _ _ hbx']; rfl
  have h3 := hcell _ hlt
  have h4 : L.getD (r * n + c) 0 = (sq n L r c : Int) := by have := h0 _ hlt; unfold sq; omega
  rw [h4] at h3
  have hmn : m * n ≤ 99 := Nat.le_trans (Nat.mul_le_mul hm hn) (by decide)
  have hrn : r * n ≤ 99 := by omega
  obtain ⟨q, hq⟩ : ∃ q, q = r * n := ⟨_, rfl⟩
  obtain ⟨k, hk⟩ : ∃ k, k = q + c := ⟨_, rfl⟩
  have hmul : (r : Int) * (n : Int) = (q : Int) := by rw [hq]; simp
  have hadd : (q : Int) + (c : Int) = (k : Int) := by rw [hk]; simp
  rw [← hq, ← hk] at h3 hlt
  have hq99 : q ≤ 99 := by omega
  have hk99 : k ≤ 99 := by omega
  have hkz : (k : Int) < ((m * n : Nat) : Int) := by omega
  generalize sq n L r c = x at *
  generalize m * n = z at *
  clear hcell h0 hbx hbx' hv h4 hq hk hrn
  go_enter Tryd.func121, Tryd.ntmps121
  go_wp2
  go_ret
  exact ⟨rfl, Below.refl _ _⟩
set_option maxHeartbeats 1000000 in
theorem asked_any (m n : Nat) (L : List Int) (v : Value) (w : World) (hv : Sl w v L) (hl : L.length = m * n) (hm : m ≤ 8) (hn : n ≤ 8) (h0 : ∀ j, j < m * n → 0 ≤ L.getD j 0) :
    Calls Tryd.prog 108 #[.agg #[.int .i64 (n : Int), v]] w fun e w' => (∃ y, e = .returned y ∧ Teller y m n (sq n L) w') ∧ Below w.heap.size w w' := by
  go_enter Tryd.func108, Tryd.ntmps108
  go_wp2
  go_ret
  have hb := balloc w (.cells #[.int .i64 (n : Int), v] 39)
  refine ⟨⟨_, rfl, _, _, rfl, e36, fun W b r c hr hc => ?_⟩, hb⟩
  exact asked1_any m n L v _ W w.heap.size (hv.below hb) hl hm hn h0 (heap_alloc_new w _) b r c hr hc

/-- Block g holds which pairs have come. -/
def Met (w : World) (g : Nat) (f : Nat → Bool) : Prop := ∃ cur, w.heap[g]? = some (.cells cur 152 (0, 0)) ∧ ∀ j, j < 8 * 8 → cur[j]? = some (.bool (f j))
def updM (f : Nat → Bool) (i : Nat) : Nat → Bool := fun j => if j = i then true else f j
theorem Met.lt {w : World} {g : Nat} {f : Nat → Bool} (h : Met w g f) : g < w.heap.size := by
  obtain ⟨cur, h, _⟩ := h
  exact (Array.getElem?_eq_some_iff.1 h).1
theorem Met.cell {w : World} {g : Nat} {f : Nat → Bool} (h : Met w g f) (j : Nat) (hj : j < 8 * 8) : w.cell? ⟨g, j, none⟩ = some (.bool (f j)) := by
  obtain ⟨cur, h, hc⟩ := h
  rw [cell_of_row w g j _ _ _ h, hc j hj]
theorem Met.frozen {w : World} {g : Nat} {f : Nat → Bool} (h : Met w g f) (j : Nat) : w.frozen? ⟨g, j, none⟩ = false := by
  obtain ⟨cur, h, _⟩ := h
  exact frozen_of_row w g j _ _ h
theorem Met.set {w : World} {g : Nat} {f : Nat → Bool} (h : Met w g f) (i : Nat) : Met (w.setCell ⟨g, i, none⟩ (.bool true)) g (updM f i) := by
  obtain ⟨cur, h, hc⟩ := h
  refine ⟨_, heap_setCell_same w g i _ _ _ h, fun j hj => ?_⟩
  have hcj := hc j hj
  have hlt : j < cur.size := (Array.getElem?_eq_some_iff.1 hcj).1
  rw [Array.getElem?_setIfInBounds]
  by_cases e : i = j
  · subst e; rw [if_pos rfl, if_pos hlt]; simp [updM]
  · rw [if_neg e, hcj]; simp [updM, Ne.symm e]
theorem Met.other {w : World} {g : Nat} {f : Nat → Bool} (h : Met w g f) (a : Addr) (v : Value) (hne : g ≠ a.block) : Met (w.setCell a v) g f := by
  obtain ⟨cur, h, hc⟩ := h
  exact ⟨cur, (heap_setCell_other w a g v hne).trans h, hc⟩
theorem Met.below {w w' : World} {g : Nat} {f : Nat → Bool} (h : Met w g f) (hb : Below w.heap.size w w') : Met w' g f := by
  have hl := h.lt
  obtain ⟨cur, h, hc⟩ := h
  exact ⟨cur, (hb.block g hl).trans h, hc⟩
theorem Met.congr {w : World} {g : Nat} {f f' : Nat → Bool} (h : Met w g f) (e : ∀ j, j < 8 * 8 → f j = f' j) : Met w g f' := by
  obtain ⟨cur, h, hc⟩ := h
  exact ⟨cur, h, fun j hj => by rw [hc j hj, e j hj]⟩
set_option maxRecDepth 100000 in
theorem once_any (w : World) : Calls Tryd.prog 120 #[] w fun e w' => e = .returned (.func (.func 124) #[] #[.pointer (some ⟨w.heap.size, 0, none⟩)]) ∧ Met w' w.heap.size (fun _ => false) ∧ Below w.heap.size w w' := by
  go_enter Tryd.func120, Tryd.ntmps120
  go_wp2
  go_ret
  refine ⟨rfl, ⟨_, heap_alloc_new w _, fun j hj => ?_⟩, balloc w _⟩
  have h : (((List.range (8 * 8)).map fun _ => Value.bool false).toArray)[j]? = some (.bool false) := by
    rw [List.getElem?_toArray, List.getElem?_map, List.getElem?_range hj]
    rfl
  exact h
theorem e43 : ∀ args w, (callFunc 124 args).run Tryd.prog w = .ok (.enter 124 args) w := enters_of Tryd.func124 (by kernel_rfl) rfl
set_option maxHeartbeats 1000000 in
theorem once1_old (g a b : Nat) (f : Nat → Bool) (W : World) (ha : a < 8) (hb : b < 8) (hM : Met W g f) (hf : f (a * 8 + b) = true) :
    Calls Tryd.prog 124 #[.int .i64 (a : Int), .int .i64 (b : Int), .pointer (some ⟨g, 0, none⟩)] W fun e w' => e = .returned (.bool false) ∧ w' = W := by
  have h1 := hM.cell (a * 8 + b) (by omega)
  have h3 : (a : Int) < 8 := by omega
  have h4 : (b : Int) < 8 := by omega
  rw [hf] at h1
  clear hM hf
  go_enter Tryd.func124, Tryd.ntmps124
  go_wp2
  go_ret
  exact ⟨rfl, rfl⟩
set_option maxHeartbeats 1000000 in
theorem once1_new (g a b : Nat) (f : Nat → Bool) (W : World) (ha : a < 8) (hb : b < 8) (hM : Met W g f) (hf : f (a * 8 + b) = false) :
    Calls Tryd.prog 124 #[.int .i64 (a : Int), .int .i64 (b : Int), .pointer (some ⟨g, 0, none⟩)] W fun e w' => e = .returned (.bool true) ∧ w' = W.setCell ⟨g, a * 8 + b, none⟩ (.bool true) := by
  have h1 := hM.cell (a * 8 + b) (by omega)
  have h2 := hM.frozen (a * 8 + b)
  have h3 : (a : Int) < 8 := by omega
  have h4 : (b : Int) < 8 := by omega
  rw [hf] at h1
  clear hM hf
  go_enter Tryd.func124, Tryd.ntmps124
  go_wp2
  go_ret
  exact ⟨rfl, rfl⟩
end Go.Proofs.YtjfjdidibglhaabDoor

namespace Go.Proofs.YtjfjdidibglhaabDoor
open Go.RowKit

/-- The cell lies ahead of this one. -/
def Sn (r c i j : Nat) : Prop := i < r ∨ (i = r ∧ j < c)
structure ApI (m n : Nat) (t : Nat → Nat → Nat) (r c : Nat) (f g : Nat → Bool) : Prop where
  f : ∀ a x, x < 8 → (f (a * 8 + x) = true ↔ ∃ j, a < m ∧ j < n ∧ Sn r c a j ∧ t a j = x)
  g : ∀ b x, x < 8 → (g (b * 8 + x) = true ↔ ∃ i, i < m ∧ b < n ∧ Sn r c i b ∧ t i b = x)
  ap : ∀ i j i' j', i < m → j < n → i' < m → j' < n → Sn r c i j → Sn r c i' j' → t i j = t i' j' → (i = i' → j = j') ∧ (j = j' → i = i')
theorem ApI.start (m n : Nat) (t : Nat → Nat → Nat) : ApI m n t 0 0 (fun _ => false) (fun _ => false) := by
  have h : ∀ i j, ¬ Sn 0 0 i j := fun i j h => by unfold Sn at h; omega
  exact ⟨fun a x _ => ⟨fun e => (by cases e), fun ⟨j, _, _, s, _⟩ => (h _ _ s).elim⟩, fun a x _ => ⟨fun e => (by cases e), fun ⟨j, _, _, s, _⟩ => (h _ _ s).elim⟩, fun i j _ _ _ _ _ _ s => (h _ _ s).elim⟩
theorem eight {a x a' x' : Nat} (h : x < 8) (h' : x' < 8) : a * 8 + x = a' * 8 + x' ↔ a = a' ∧ x = x' := by omega
theorem sn_succ {r c i j : Nat} : Sn r (c + 1) i j ↔ Sn r c i j ∨ (i = r ∧ j = c) := by unfold Sn; omega
theorem ApI.step {m n : Nat} {t : Nat → Nat → Nat} {r c : Nat} {f g : Nat → Bool} (h : ApI m n t r c f g) (hr : r < m) (hc : c < n) (hx : t r c < 8) (h1 : f (r * 8 + t r c) = false) (h2 : g (c * 8 + t r c) = false) :
    ApI m n t r (c + 1) (updM f (r * 8 + t r c)) (updM g (c * 8 + t r c)) := by
  have n1 : ∀ j, j < n → Sn r c r j → t r j ≠ t r c := fun j hj s e => by
    have := (h.f r (t r c) hx).2 ⟨j, hr, hj, s, e⟩
    rw [h1] at this; cases this
  have n2 : ∀ i, i < m → Sn r c i c → t i c ≠ t r c := fun i hi s e => by
    have := (h.g c (t r c) hx).2 ⟨i, hi, hc, s, e⟩
    rw [h2] at this; cases this
  refine ⟨fun a x hx' => ?_, fun b x hx' => ?_, fun i j i' j' hi hj hi' hj' s s' e => ?_⟩
  · unfold updM
    by_cases e : a * 8 + x = r * 8 + t r c
    · rw [if_pos e]
      obtain ⟨rfl, rfl⟩ := (eight hx' hx).1 e
      exact ⟨fun _ => ⟨c, hr, hc, sn_succ.2 (.inr ⟨rfl, rfl⟩), rfl⟩, fun _ => rfl⟩
    · rw [if_neg e, h.f a x hx']
      constructor
      · rintro ⟨j, a1, a2, a3, a4⟩; exact ⟨j, a1, a2, sn_succ.2 (.inl a3), a4⟩
      · rintro ⟨j, a1, a2, a3, a4⟩
        rcases sn_succ.1 a3 with a3 | ⟨rfl, rfl⟩
        · exact ⟨j, a1, a2, a3, a4⟩
        · subst a4; exact (e rfl).elim
  · unfold updM
    by_cases e : b * 8 + x = c * 8 + t r c
    · rw [if_pos e]
      obtain ⟨rfl, rfl⟩ := (eight hx' hx).1 e
      exact ⟨fun _ => ⟨r, hr, hc, sn_succ.2 (.inr ⟨rfl, rfl⟩), rfl⟩, fun _ => rfl⟩
    · rw [if_neg e, h.g b x hx']
      constructor
      · rintro ⟨j, a1, a2, a3, a4⟩; exact ⟨j, a1, a2, sn_succ.2 (.inl a3), a4⟩
      · rintro ⟨j, a1, a2, a3, a4⟩
        rcases sn_succ.1 a3 with a3 | ⟨rfl, rfl⟩
        · exact ⟨j, a1, a2, a3, a4⟩
        · subst a4; exact (e rfl).elim
  · rcases sn_succ.1 s with s | ⟨rfl, rfl⟩
    · rcases sn_succ.1 s' with s' | ⟨rfl, rfl⟩
      · exact h.ap i j i' j' hi hj hi' hj' s s' e
      · exact ⟨fun x => by subst x; exact (n1 j hj s e).elim, fun x => by subst x; exact (n2 i hi s e).elim⟩
    · rcases sn_succ.1 s' with s' | ⟨rfl, rfl⟩
      · exact ⟨fun x => by subst x; exact (n1 j' hj' s' e.symm).elim, fun x => by subst x; exact (n2 i' hi' s' e.symm).elim⟩
      · exact ⟨fun _ => rfl, fun _ => rfl⟩
theorem ApI.next {m n : Nat} {t : Nat → Nat → Nat} {r : Nat} {f g : Nat → Bool} (h : ApI m n t r n f g) : ApI m n t (r + 1) 0 f g := by
  have k : ∀ i j, j < n → (Sn r n i j ↔ Sn (r + 1) 0 i j) := fun i j hj => by unfold Sn; omega
  refine ⟨fun a x hx => ?_, fun b x hx => ?_, fun i j i' j' hi hj hi' hj' s s' e => h.ap i j i' j' hi hj hi' hj' ((k _ _ hj).2 s) ((k _ _ hj').2 s') e⟩
  · rw [h.f a x hx]
    exact ⟨fun ⟨j, a1, a2, a3, a4⟩ => ⟨j, a1, a2, (k _ _ a2).1 a3, a4⟩, fun ⟨j, a1, a2, a3, a4⟩ => ⟨j, a1, a2, (k _ _ a2).2 a3, a4⟩⟩
  · rw [h.g b x hx]
    exact ⟨fun ⟨j, a1, a2, a3, a4⟩ => ⟨j, a1, a2, (k _ _ a2).1 a3, a4⟩, fun ⟨j, a1, a2, a3, a4⟩ => ⟨j, a1, a2, (k _ _ a2).2 a3, a4⟩⟩
theorem ApI.bad1 {m n : Nat} {t : Nat → Nat → Nat} {r c : Nat} {f g : Nat → Bool} (h : ApI m n t r c f g) (hr : r < m) (hc : c < n) (hx : t r c < 8) (h1 : f (r * 8 + t r c) = true) : ¬ Ap m n t := fun ha => by
  obtain ⟨j, a1, a2, a3, a4⟩ := (h.f r _ hx).1 h1
  have := (ha r j r c hr a2 hr hc a4).1 rfl
  unfold Sn at a3; omega
theorem ApI.bad2 {m n : Nat} {t : Nat → Nat → Nat} {r c : Nat} {f g : Nat → Bool} (h : ApI m n t r c f g) (hr : r < m) (hc : c < n) (hx : t r c < 8) (h1 : g (c * 8 + t r c) = true) : ¬ Ap m n t := fun ha => by
  obtain ⟨i, a1, a2, a3, a4⟩ := (h.g c _ hx).1 h1
  have := (ha i c r c a1 hc hr hc a4).2 rfl
  unfold Sn at a3; omega
theorem ApI.all {m n : Nat} {t : Nat → Nat → Nat} {f g : Nat → Bool} (h : ApI m n t m 0 f g) : Ap m n t := fun i j i' j' hi hj hi' hj' e => h.ap i j i' j' hi hj hi' hj' (.inl hi) (.inl hi') e

set_option maxHeartbeats 4000000 in
theorem apart_any (m n : Nat) (t : Nat → Nat → Nat) (v : Value) (w : World) (b : Bool) (hm : m ≤ 8) (hn : n ≤ 8) (ht : ∀ r c, r < m → c < n → t r c < 8) (hT : Teller v m n t w) (hb : b = true ↔ Ap m n t) :
    Calls Tryd.prog 107 #[.int .i64 (m : Int), .int .i64 (n : Int), v] w fun e w' => e = .returned (.bool b) ∧ Below w.heap.size w w' := by
  obtain ⟨g, lb, rfl, eg, hT⟩ := hT
  have HT : Hid (TellAt g lb m n t w) := hT
  have HB : Hid (b = true ↔ Ap m n t) := hb
  have HX : Hid (∀ r c, r < m → c < n → t r c < 8) := ht
  have hbf : ¬ Ap m n t → b = false := fun h => by
    cases b with
    | false => rfl
    | true => exact (h (hb.1 rfl)).elim
  have HF : Hid (¬ Ap m n t → b = false) := hbf
  have E43 := e43
  clear hT hb ht hbf
  go_enter Tryd.func107, Tryd.ntmps107
  have C1 := once_any w
  go_wp2_with (first
    | (go_at_call 120; refine C1.mono ?_; rintro e w1 ⟨rfl, hM1, b1⟩; have C2 := once_any w1; clear C1)
    | (go_at_call 120; refine C2.mono ?_; rintro e w2 ⟨rfl, hM2, b2⟩; clear C2))
  have hs1 := hM1.lt
  replace hM1 := hM1.below b2
  have hs2 := hM2.lt
  have b12 := Below.next b1 b2
  clear b1 b2
  go_loopw [15] (fun i wr => ∃ (r : Nat) (f h : Nat → Bool), i = .int .i64 (r : Int) ∧ r ≤ m ∧ Met wr w.heap.size f ∧ Met wr w1.heap.size h ∧ Hid (ApI m n t r 0 f h) ∧ Below w.heap.size w wr) (fun i _ => (m - intOf i).toNat)
  case atStart => exact ⟨0, _, _, rfl, by omega, hM1, hM2, ApI.start m n t, b12⟩
  case round =>
    clear hM1 hM2 b12
    obtain ⟨r, f, h, rfl, hr, hM1, hM2, HI, hB⟩ := hrel
    by_cases hlt : r < m
    · have hdr : decide ((r : Int) < (m : Int)) = true := by simp; omega
      go_wp2
      go_loopw [19] (fun i wr => ∃ (c : Nat) (f h : Nat → Bool), i = .int .i64 (c : Int) ∧ c ≤ n ∧ Met wr w.heap.size f ∧ Met wr w1.heap.size h ∧ Hid (ApI m n t r c f h) ∧ Below w.heap.size w wr) (fun i _ => (n - intOf i).toNat)
      case atStart => exact ⟨0, _, _, rfl, by omega, hM1, hM2, HI, hB⟩
      case round =>
        clear hM1 hM2 HI hB f h
        obtain ⟨c, f, h, rfl, hc, hM1, hM2, HI, hB⟩ := hrel
        by_cases hlc : c < n
        · have hdc : decide ((c : Int) < (n : Int)) = true := by simp; omega
          have C := HT.out _ hB r c hlt hlc
          have hx8 := HX.out r c hlt hlc
          obtain ⟨x, Hx⟩ : ∃ x, Hid (t r c = x) := ⟨_, rfl⟩
          rw [Hx.out] at C hx8
          have hxr : r < 8 := by omega
          have hxc : c < 8 := by omega
          cases hf : f (r * 8 + x) with
          | true =>
            have hbb : b = false := HF.out (HI.out.bad1 hlt hlc (by rw [Hx.out]; exact hx8) (by rw [Hx.out]; exact hf))
            subst hbb
            have D1 := fun W (hM : Met W w.heap.size f) => once1_old w.heap.size r x f W hxr hx8 hM hf
            go_wp2_with (first
              | (go_at_fn g; refine C.mono ?_; rintro e w3 ⟨rfl, b3⟩)
              | (go_at_call 124; refine (D1 _ (hM1.below b3)).mono ?_; rintro e w4 ⟨rfl, rfl⟩))
            go_ret
            exact ⟨rfl, Below.next hB b3⟩
          | false =>
            have D1 := fun W (hM : Met W w.heap.size f) => once1_new w.heap.size r x f W hxr hx8 hM hf
            cases hh : h (c * 8 + x) with
            | true =>
              have hbb : b = false := HF.out (HI.out.bad2 hlt hlc (by rw [Hx.out]; exact hx8) (by rw [Hx.out]; exact hh))
              subst hbb
              have D2 := fun W (hM : Met W w1.heap.size h) => once1_old w1.heap.size c x h W hxc hx8 hM hh
              go_wp2_with (first
                | (go_at_fn g; refine C.mono ?_; rintro e w3 ⟨rfl, b3⟩)
                | (go_at_call 124; refine (D1 _ (hM1.below b3)).mono ?_; rintro e w4 ⟨rfl, rfl⟩; clear D1)
                | (go_at_call 124; refine (D2 _ ((hM2.below b3).other _ _ (by show w1.heap.size ≠ w.heap.size; omega))).mono ?_; rintro e w4 ⟨rfl, rfl⟩; clear D2))
              go_ret
              exact ⟨rfl, (Below.next hB b3).setCell (Nat.le_refl _) _⟩
            | false =>
              have HI2 := HI.out.step hlt hlc (by rw [Hx.out]; exact hx8) (by rw [Hx.out]; exact hf) (by rw [Hx.out]; exact hh)
              rw [Hx.out] at HI2
              have HI3 : Hid (ApI m n t r (c + 1) (updM f (r * 8 + x)) (updM h (c * 8 + x))) := HI2
              have D2 := fun W (hM : Met W w1.heap.size h) => once1_new w1.heap.size c x h W hxc hx8 hM hh
              clear HI2 HI
              go_wp2_with (first
                | (go_at_fn g; refine C.mono ?_; rintro e w3 ⟨rfl, b3⟩)
                | (go_at_call 124; refine (D1 _ (hM1.below b3)).mono ?_; rintro e w4 ⟨rfl, rfl⟩; clear D1)
                | (go_at_call 124; refine (D2 _ ((hM2.below b3).other _ _ (by show w1.heap.size ≠ w.heap.size; omega))).mono ?_; rintro e w4 ⟨rfl, rfl⟩; clear D2))
              go_roundw
              case rel =>
                refine ⟨c + 1, _, _, by go_num, by omega, ((hM1.below b3).set _).other _ _ (by show w.heap.size ≠ w1.heap.size; omega), ((hM2.below b3).other _ _ (by show w1.heap.size ≠ w.heap.size; omega)).set _, HI3, ((Below.next hB b3).setCell (Nat.le_refl _) _).setCell (by show w.heap.size ≤ w1.heap.size; omega) _⟩
              case measure => simp [intOf]; omega
        · have hdc : decide ((c : Int) < (n : Int)) = false := by simp; omega
          obtain rfl : c = n := by omega
          go_wp2
          go_roundw
          case rel => exact ⟨r + 1, f, h, by go_num, by omega, hM1, hM2, HI.out.next, hB⟩
          case measure => simp [intOf]; omega
    · have hdr : decide ((r : Int) < (m : Int)) = false := by simp; omega
      obtain rfl : r = m := by omega
      have hbb : b = true := HB.out.2 HI.out.all
      subst hbb
      go_wp2
      go_ret
      exact ⟨rfl, hB⟩
end Go.Proofs.YtjfjdidibglhaabDoor

namespace Go.Proofs.YtjfjdidibglhaabDoor
open Go.RowKit

theorem lF_far {s : Int} {L : List Int} (h : s < 1 ∨ 8 < s) : lF s L = 1 := by unfold lF; rw [if_pos h]
theorem lF_shape {n : Nat} {L : List Int} (h1 : 1 ≤ n) (h8 : n ≤ 8) (h : L.length ≠ n * n) : lF n L = 2 := by
  unfold lF
  rw [if_neg (by omega), if_pos]
  intro e
  exact h (by exact_mod_cast e)
theorem lF_out {n : Nat} {L : List Int} {j : Nat} (h1 : 1 ≤ n) (h8 : n ≤ 8) (hl : L.length = n * n) (hj : j < n * n) (h : ¬ (0 ≤ L.getD j 0 ∧ L.getD j 0 < n)) : lF n L = 1 := by
  unfold lF
  rw [if_neg (by omega), if_neg (by rw [hl]; simp), if_pos]
  exact inLB_no fun k => h (k j (by omega))
theorem lF_on {n : Nat} {L : List Int} (h1 : 1 ≤ n) (h8 : n ≤ 8) (hl : L.length = n * n) (h : ∀ j, j < n * n → 0 ≤ L.getD j 0 ∧ L.getD j 0 < n) : lF n L = if onB n L then 0 else 6 := by
  unfold lF
  have hn : ((n : Int)).toNat = n := by omega
  rw [if_neg (by omega), if_neg (by rw [hl]; simp), if_neg (by rw [(inLB_iff _ _).2 fun j hj => h j (by omega)]; simp), hn]
theorem inf24L : (Tryd.prog.info? 39).map (·.size) = some 2 := by kernel_rfl
theorem range_two (w : World) (b : Nat) (x y : Value) (h0 : w.cell? ⟨b, 0, none⟩ = some x) (h1 : w.cell? ⟨b, 1, none⟩ = some y) : w.rangeAt b 0 [x, y] := by
  intro j v hj
  match j, hj with
  | 0, hj => simp only [List.getElem?_cons_zero, Option.some.injEq] at hj; subst hj; exact h0
  | 1, hj => simp only [List.getElem?_cons_succ, List.getElem?_cons_zero, Option.some.injEq] at hj; subst hj; exact h1
  | j + 2, hj => simp at hj

set_option maxHeartbeats 4000000 in
theorem LCheck_far (s : Int) (v : Value) (w : World) (h : s < 1 ∨ 8 < s) :
    Calls Tryd.prog 73 #[.agg #[.int .i64 s, v]] w fun e w' => e = .returned (.int .i64 1) ∧ Below w.heap.size w w' := by
  have C := fun W => isSide_any s W
  have hs : sideB s = false := by unfold sideB; rcases h with h | h <;> simp <;> omega
  rw [hs] at C
  clear hs h
  go_enter Tryd.func73, Tryd.ntmps73
  go_wp2_with (go_at_call 105; refine (C _).mono ?_; rintro e w1 ⟨rfl, rfl⟩)
  go_ret
  exact ⟨rfl, balloc w _⟩
set_option maxHeartbeats 4000000 in
theorem Check_shape (n : Nat) (L : List Int) (v : Value) (w : World) (h1 : 1 ≤ n) (h8 : n ≤ 8) (hv : Sl w v L) (_hll : L.length ≤ maxLen) (hl : L.length ≠ n * n) :
    Calls Tryd.prog 73 #[.agg #[.int .i64 (n : Int), v]] w fun e w' => e = .returned (.int .i64 2) ∧ Below w.heap.size w w' := by
  have C := fun W => isSide_any n W
  have hs : sideB n = true := by unfold sideB; simp; omega
  rw [hs] at C
  obtain ⟨a, cap, rfl, _⟩ := hv
  obtain ⟨z, hz⟩ : ∃ z, z = n * n := ⟨_, rfl⟩
  have hz99 : z ≤ 99 := by rw [hz]; exact Nat.le_trans (Nat.mul_le_mul h8 h8) (by decide)
  have hmul : (n : Int) * (n : Int) = (z : Int) := by rw [hz]; simp
  have hne : ((L.length : Int) != (z : Int)) = true := by simp; omega
  generalize L.length = q at *
  clear hs hz hl
  go_enter Tryd.func73, Tryd.ntmps73
  go_wp2_with (go_at_call 105; refine (C _).mono ?_; rintro e w1 ⟨rfl, rfl⟩)
  go_ret
  exact ⟨rfl, balloc w _⟩
set_option maxRecDepth 100000 in
set_option maxHeartbeats 8000000 in
theorem Check_main (n : Nat) (L : List Int) (v : Value) (w : World) (h1 : 1 ≤ n) (h8 : n ≤ 8) (hv : Sl w v L) (hl : L.length = n * n) :
    Calls Tryd.prog 73 #[.agg #[.int .i64 (n : Int), v]] w fun e w' => e = .returned (.int .i64 (lF n L : Int)) ∧ Below w.heap.size w w' := by
  have C := fun W => isSide_any n W
  have hs : sideB n = true := by unfold sideB; simp; omega
  rw [hs] at C
  have hpos : 0 < n * n := Nat.mul_pos h1 h1
  have HV : Hid (Sl w v L) := hv
  obtain ⟨a, off, cap, rfl, ha, hcell⟩ := hv.form hl hpos
  obtain ⟨u, hu⟩ : ∃ u, u = lF n L := ⟨_, rfl⟩
  have HU : Hid (u = lF n L) := hu
  rw [← hu]
  obtain ⟨z, hz⟩ : ∃ z, z = n * n := ⟨_, rfl⟩
  have hz99 : z ≤ 99 := by rw [hz]; exact Nat.le_trans (Nat.mul_le_mul h8 h8) (by decide)
  have hmul : (n : Int) * (n : Int) = (z : Int) := by rw [hz]; simp
  have hne : ((z : Int) != (z : Int)) = false := by simp
  have HL : Hid (L.length = n * n) := hl
  have HZ : Hid (z = n * n) := hz
  have HC : Hid (∀ j, j < z → w.cell? ⟨a, off + j, none⟩ = some (.int .i64 (L.getD j 0))) := by rw [hz]; exact hcell
  rw [← hz] at HV ⊢
  have b0 := balloc w (.cells #[.int .i64 (n : Int), .slice (some ⟨a, off, none⟩) z cap] 39)
  have hx0 : (w.alloc (.cells #[.int .i64 (n : Int), .slice (some ⟨a, off, none⟩) z cap] 39)).cell? ⟨w.heap.size, 0, none⟩ = some (.int .i64 (n : Int)) := by rw [cell_of_row _ _ _ _ _ _ (heap_alloc_new w _)]; rfl
  have hx1 : (w.alloc (.cells #[.int .i64 (n : Int), .slice (some ⟨a, off, none⟩) z cap] 39)).cell? ⟨w.heap.size, 1, none⟩ = some (.slice (some ⟨a, off, none⟩) z cap) := by rw [cell_of_row _ _ _ _ _ _ (heap_alloc_new w _)]; rfl
  have hsz : w.heap.size < (w.alloc (.cells #[.int .i64 (n : Int), .slice (some ⟨a, off, none⟩) z cap] 39)).heap.size := by simp
  clear hs hcell hl hz hu
  go_enter Tryd.func73, Tryd.ntmps73
  go_wp2_with (go_at_call 105; refine (C _).mono ?_; rintro e w1 ⟨rfl, rfl⟩)
  clear C
  go_loopw [21] (fun i wr => ∃ j : Nat, i = .int .i64 (j : Int) ∧ j ≤ z ∧ Hid (∀ q, q < j → 0 ≤ L.getD q 0 ∧ L.getD q 0 < n) ∧ wr.cell? ⟨w.heap.size, 0, none⟩ = some (.int .i64 (n : Int)) ∧ wr.cell? ⟨w.heap.size, 1, none⟩ = some (.slice (some ⟨a, off, none⟩) z cap) ∧ w.heap.size < wr.heap.size ∧ Below w.heap.size w wr) (fun i _ => (z - intOf i).toNat)
  case atStart => exact ⟨0, rfl, by omega, (fun q h => by omega : ∀ q, q < 0 → _), hx0, hx1, hsz, b0⟩
  case round =>
    clear hx0 hx1 b0 hsz
    obtain ⟨j, rfl, hj, HJ, hx0, hx1, hsz, b0⟩ := hrel
    by_cases hlt : j < z
    · have hdj : decide ((j : Int) < (z : Int)) = true := by simp; omega
      have hji : (j : Int) < z := by omega
      have hj0 : (0 : Int) ≤ (j : Int) := by omega
      have hcj := (b0.cell (p := ⟨a, off + j, none⟩) ha).trans (HC.out j hlt)
      obtain ⟨x, hx⟩ : ∃ x, x = L.getD j 0 := ⟨_, rfl⟩
      rw [← hx] at hcj
      have C2 := fun W => isOf_any n x W
      by_cases hin : 0 ≤ x ∧ x < n
      · have ho : ofB n x = true := by unfold ofB; simp; omega
        have HJ2 : Hid (∀ q, q < j + 1 → 0 ≤ L.getD q 0 ∧ L.getD q 0 < n) := fun q hq => by
          by_cases e : q = j
          · subst e; rw [← hx]; exact hin
          · exact HJ.out q (by omega)
        rw [ho] at C2
        clear hin HJ hx
        go_wp2_with (go_at_call 106; refine (C2 _).mono ?_; rintro e w1 ⟨rfl, rfl⟩)
        go_roundw
        case rel => exact ⟨j + 1, by go_num, by omega, HJ2, hx0, hx1, hsz, b0⟩
        case measure => simp [intOf]; omega
      · have ho : ofB n x = false := by unfold ofB; simp; omega
        have hu1 : u = 1 := by rw [HU.out]; exact lF_out h1 h8 HL.out (by rw [← HZ.out]; exact hlt) (by rw [← hx]; exact hin)
        subst hu1
        rw [ho] at C2
        clear hin HJ hx
        go_wp2_with (go_at_call 106; refine (C2 _).mono ?_; rintro e w1 ⟨rfl, rfl⟩)
        go_ret
        exact ⟨rfl, b0⟩
    · have hdj : decide ((j : Int) < (z : Int)) = false := by simp; omega
      obtain rfl : j = z := by omega
      have hon := lF_on h1 h8 HL.out (by rw [← HZ.out]; exact HJ.out)
      rw [← HU.out] at hon
      have A1 := fun W (b : Below w.heap.size w W) => asked_any n n L _ W (HV.out.below b) HL.out h8 h8 (by rw [← HZ.out]; exact fun q hq => (HJ.out q hq).1)
      have A2 := fun y W (hT : Teller y n n (sq n L) W) => apart_any n n (sq n L) y W (onB n L) h8 h8 (fun r c hr hc => by
        have := (HJ.out _ (by rw [HZ.out]; exact cell_lt hr hc)).2
        unfold sq; omega) hT (onB_ap HL.out (by rw [HL.out, ← HZ.out]; exact fun q hq => (HJ.out q hq).1))
      have HON : Hid (u = if onB n L then 0 else 6) := hon
      have HS : Hid (w.heap.size < wr.heap.size) := hsz
      have hrg := range_two wr w.heap.size _ _ hx0 hx1
      generalize onB n L = o at *
      clear hon HJ HU
      go_wp2_with fail
      refine wp_region_noPanic ?_
      refine wp_region_held_drew (S := fun w' => w'.cell? ⟨w.heap.size, 0, none⟩ = some (.int .i64 (n : Int)) ∧ w'.rangeAt w.heap.size 0 [.int .i64 (n : Int), .slice (some ⟨a, off, none⟩) j cap]) (by kernel_rfl) (⟨hx0, hrg⟩) (fun hSx => ?_)
      refine wpAnyH_take (i := 0) (v := .pointer (some ⟨w.heap.size, 0, none⟩)) rfl (by kernel_rfl) (by kernel_rfl) (by kernel_rfl) (fun _ _ _ h => h) (Or.inl ⟨by rfl, fun w' hSw => by (try dsimp only at hSw); go_simp⟩) hSx ?_
      try simp only [Act.put, List.setIfInBounds_toArray]
      refine wpAnyH_take (i := 1) (v := .int .i64 (n : Int)) rfl (by kernel_rfl) (by kernel_rfl) (by kernel_rfl) (fun _ _ _ h => h) (Or.inl ⟨by rfl, fun w' hSw => by (try dsimp only at hSw); have hSw1 := hSw.1; go_simp⟩) hSx ?_
      try simp only [Act.put]
      refine wpAnyH_take (i := 2) (v := .pointer (some ⟨w.heap.size, 0, none⟩)) rfl (by kernel_rfl) (by kernel_rfl) (by kernel_rfl) (fun _ _ _ h => h) (Or.inl ⟨by rfl, fun w' hSw => by (try dsimp only at hSw); go_simp⟩) hSx ?_
      try simp only [Act.put]
      refine wpAnyH_take (i := 3) (v := .int .i64 (n : Int)) rfl (by kernel_rfl) (by kernel_rfl) (by kernel_rfl) (fun _ _ _ h => h) (Or.inl ⟨by rfl, fun w' hSw => by (try dsimp only at hSw); have hSw1 := hSw.1; go_simp⟩) hSx ?_
      try simp only [Act.put]
      refine wpAnyH_take (i := 4) (v := .agg #[.int .i64 (n : Int), .slice (some ⟨a, off, none⟩) j cap]) rfl (by kernel_rfl) (by kernel_rfl) (by kernel_rfl) (fun _ _ _ h => h) (yieldsIf_load_mid (by rfl) 39 _ rfl w.heap.size 0 rfl [.int .i64 (n : Int), .slice (some ⟨a, off, none⟩) j cap] _ (fun _ h => h.2) Tryd.underlying39 rfl inf24L) hSx ?_
      try simp only [Act.put]
      refine wpAnyH_ready (rs := [5]) (by kernel_rfl) (by simp) ?_
      refine AllReadyH.cons rfl (fun J hJ => ?_) AllReadyH.nil
      go_simp
      refine (A1 _ b0.drew).mono ?_
      rintro e w5 ⟨⟨y, rfl, hT⟩, b5⟩
      have hS5 : w5.cell? ⟨w.heap.size, 0, none⟩ = some (.int .i64 (n : Int)) ∧ w5.rangeAt w.heap.size 0 [.int .i64 (n : Int), .slice (some ⟨a, off, none⟩) j cap] := by
        have k : ∀ o, w5.cell? ⟨w.heap.size, o, none⟩ = wr.cell? ⟨w.heap.size, o, none⟩ := fun o => b5.cell (p := ⟨w.heap.size, o, none⟩) HS.out
        exact ⟨(k 0).trans hx0, range_two w5 _ _ _ ((k 0).trans hx0) ((k 1).trans hx1)⟩
      have b15 := Below.next b0.drew b5
      go_wp2_with fail
      refine hJ.out _ _ hS5 (fun hSy => ?_)
      clear hJ J
      try simp only [Act.put, List.setIfInBounds_toArray, List.set_cons_zero, List.set_cons_succ]
      refine wpAnyH_ready (rs := [6]) (by kernel_rfl) (by simp) ?_
      refine AllReadyH.cons rfl (fun J hJ => ?_) AllReadyH.nil
      go_simp
      refine (A2 y w5 hT).mono ?_
      rintro e w6 ⟨rfl, b6⟩
      have hS6 : w6.cell? ⟨w.heap.size, 0, none⟩ = some (.int .i64 (n : Int)) ∧ w6.rangeAt w.heap.size 0 [.int .i64 (n : Int), .slice (some ⟨a, off, none⟩) j cap] := by
        have k : ∀ o, w6.cell? ⟨w.heap.size, o, none⟩ = w5.cell? ⟨w.heap.size, o, none⟩ := fun o => b6.cell (p := ⟨w.heap.size, o, none⟩) (Nat.lt_of_lt_of_le HS.out b5.size)
        have k2 : ∀ o, w5.cell? ⟨w.heap.size, o, none⟩ = wr.cell? ⟨w.heap.size, o, none⟩ := fun o => b5.cell (p := ⟨w.heap.size, o, none⟩) HS.out
        exact ⟨(k 0).trans ((k2 0).trans hx0), range_two w6 _ _ _ ((k 0).trans ((k2 0).trans hx0)) ((k 1).trans ((k2 1).trans hx1))⟩
      have b16 := Below.next b15 b6
      go_wp2_with fail
      refine hJ.out _ _ hS6 (fun hSz => ?_)
      clear hJ J
      try simp only [Act.put, List.setIfInBounds_toArray, List.set_cons_zero, List.set_cons_succ]
      refine wpAnyH_take (i := 7) (v := .bool (!o)) rfl (by kernel_rfl) (by kernel_rfl) (by kernel_rfl) (fun _ _ _ h => h) (Or.inl ⟨by rfl, fun w' hSw => by (try dsimp only at hSw); go_simp⟩) hSz ?_
      try simp only [Act.put, List.setIfInBounds_toArray]
      refine wpAnyH_done (by kernel_rfl) ?_ _
      refine NoPanic.normal ?_
      clear hSx hSy hSz hS5 hS6 hx0 hx1 hrg A1 A2
      cases o with
      | true =>
        have hu0 : u = 0 := HON.out
        subst hu0
        go_wp2
        go_ret
        exact ⟨rfl, b16⟩
      | false =>
        have hu0 : u = 6 := HON.out
        subst hu0
        go_wp2
        go_ret
        exact ⟨rfl, b16⟩
theorem LCheck_any (s : Int) (L : List Int) (v : Value) (w : World) (hv : Sl w v L) (hll : L.length ≤ maxLen) :
    Calls Tryd.prog 73 #[.agg #[.int .i64 s, v]] w fun e w' => e = .returned (.int .i64 (lF s L : Int)) ∧ Below w.heap.size w w' := by
  by_cases h : s < 1 ∨ 8 < s
  · rw [lF_far h]; exact LCheck_far s v w h
  · obtain ⟨n, rfl⟩ : ∃ n : Nat, s = n := ⟨s.toNat, by omega⟩
    by_cases hl : L.length = n * n
    · exact Check_main n L v w (by omega) (by omega) hv hl
    · rw [lF_shape (by omega) (by omega) hl]; exact Check_shape n L v w (by omega) (by omega) hv hll hl

end Go.Proofs.YtjfjdidibglhaabDoor
