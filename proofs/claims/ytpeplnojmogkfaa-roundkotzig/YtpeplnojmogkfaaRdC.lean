/- Rounds in a circle; what is wrong with rounds; rings. Nothing of the program. -/
import Derived.Test.YtpeplnojmogkfaaRdM
namespace Go.Proofs.Ytpeplnojmogkfaa

/-- From team to team by those who meet in two rounds: all come from the first one. -/
def Cn (n : Nat) (k l : List Nat) : Prop := ∀ T : Nat → Prop, T 0 → (∀ x, x < n → T x → T (k.getD x 0) ∧ T (l.getD x 0)) → ∀ x, x < n → T x
/-- Perfect: complete, and each two make one ring. -/
def Pfc (n : Nat) (ls : List (List Nat)) : Prop := ls.length = n - 1 ∧ ∀ i j, j < i → i < ls.length → Cn n (ls.getD i []) (ls.getD j [])
def rgL (k l : List Nat) : Nat → Nat → List Nat
  | 0, _ => []
  | m + 1, x => x :: k.getD x 0 :: rgL k l m (l.getD (k.getD x 0) 0)
theorem rgL_in {n : Nat} {k l : List Nat} (hk : Rnd n fun x => k.getD x 0) (hl : Rnd n fun x => l.getD x 0) {T : Nat → Prop} (hT : ∀ x, x < n → T x → T (k.getD x 0) ∧ T (l.getD x 0)) : ∀ m x, x < n → T x → ∀ y ∈ rgL k l m x, T y
  | 0, _, _, _, _, h => by simp [rgL] at h
  | m + 1, x, hx, h, y, hy => by
    have h1 : k.getD x 0 < n := (hk x hx).1
    have t1 := (hT x hx h).1
    simp only [rgL, List.mem_cons] at hy
    rcases hy with rfl | rfl | hy
    · exact h
    · exact t1
    · exact rgL_in hk hl hT m _ (hl _ h1).1 (hT _ h1 t1).2 y hy
theorem cn_ring {n : Nat} {k l : List Nat} (hn : 0 < n) (hk : Rnd n fun x => k.getD x 0) (hl : Rnd n fun x => l.getD x 0) (h : ((List.range n).all fun x => (rgL k l (n / 2) 0).contains x) = true) : Cn n k l := fun T h0 hT x hx => by
  have := List.all_eq_true.1 h x (List.mem_range.2 hx)
  exact rgL_in hk hl hT (n / 2) 0 hn h0 x (by simpa using this)
/-- The rounds of a circle. -/
def crF (v r a : Nat) : Nat := if (2 * r + 2 * v - a) % v = a then v else (2 * r + 2 * v - a) % v
def crR (v r : Nat) : List Nat := (List.range v).map (crF v r) ++ [r]
def crL (n : Nat) : List (List Nat) := (List.range (n - 1)).map (crR (n - 1))
/-- What the kernel is asked of rounds. -/
def rdsB (n : Nat) (ls : List (List Nat)) : Bool := (ls.all fun l => l.length == n && (List.range n).all fun x => decide (l.getD x 0 < n) && l.getD x 0 != x && l.getD (l.getD x 0) 0 == x) && (List.range ls.length).all fun i => (List.range i).all fun j => (List.range n).all fun a => (ls.getD i []).getD a 0 != (ls.getD j []).getD a 0
theorem rds_of {n : Nat} {ls : List (List Nat)} (h : rdsB n ls = true) : Rds n ls := by
  unfold rdsB at h
  simp only [Bool.and_eq_true] at h
  refine ⟨fun l hl => ?_, fun l hl x hx => ?_, fun i j hj hi a ha => ?_⟩
  · have := List.all_eq_true.1 h.1 l hl
    simp only [Bool.and_eq_true] at this
    exact eq_of_beq this.1
  · have := List.all_eq_true.1 h.1 l hl
    simp only [Bool.and_eq_true] at this
    have := List.all_eq_true.1 this.2 x (List.mem_range.2 hx)
    simp only [Bool.and_eq_true, decide_eq_true_eq] at this
    exact ⟨this.1.1, bne_iff_ne.1 this.1.2, eq_of_beq this.2⟩
  · have := List.all_eq_true.1 (List.all_eq_true.1 (List.all_eq_true.1 h.2 i (List.mem_range.2 hi)) j (List.mem_range.2 hj)) a (List.mem_range.2 ha)
    exact bne_iff_ne.1 this
def Evn (n : Nat) : Prop := n = 2 ∨ n = 4 ∨ n = 6 ∨ n = 8 ∨ n = 10 ∨ n = 12 ∨ n = 14 ∨ n = 16
theorem crL_rds {n : Nat} (h : Evn n) : Rds n (crL n) := by
  rcases h with rfl | rfl | rfl | rfl | rfl | rfl | rfl | rfl <;> exact rds_of (by decide +kernel)
theorem crL_len (n : Nat) : (crL n).length = n - 1 := by simp [crL]
def pfcB (n : Nat) : Bool := (List.range (n - 1)).all fun i => (List.range i).all fun j => (List.range n).all fun x => (rgL ((crL n).getD i []) ((crL n).getD j []) (n / 2) 0).contains x
theorem pfc_of {n : Nat} (he : Evn n) (h : pfcB n = true) : Pfc n (crL n) := by
  refine ⟨crL_len n, fun i j hj hi => ?_⟩
  have hr := crL_rds he
  have mem : ∀ i, i < (crL n).length → (crL n).getD i [] ∈ crL n := fun i hi => by
    rw [List.getD_eq_getElem?_getD, List.getElem?_eq_getElem hi]
    exact List.getElem_mem hi
  rw [crL_len] at hi
  refine cn_ring (by rcases he with h | h | h | h | h | h | h | h <;> omega) (hr.rnd _ (mem i (by rw [crL_len]; exact hi))) (hr.rnd _ (mem j (by rw [crL_len]; omega))) ?_
  exact List.all_eq_true.1 (List.all_eq_true.1 h i (List.mem_range.2 hi)) j (List.mem_range.2 hj)
/-- Kotzig's: of a prime and one. -/
theorem kotzig {n : Nat} (h : n = 2 ∨ n = 4 ∨ n = 6 ∨ n = 8 ∨ n = 12 ∨ n = 14) : Pfc n (crL n) := by
  rcases h with rfl | rfl | rfl | rfl | rfl | rfl <;> exact pfc_of (by simp [Evn]) (by decide +kernel)
/-- What is wrong with a round. -/
def outB (n : Nat) (l : List Int) : Bool := (List.range n).any fun a => decide (l.getD a 0 < 0) || decide ((n : Int) ≤ l.getD a 0)
def notB (n : Nat) (l : List Int) : Bool := (List.range n).any fun a => l.getD a 0 == (a : Int) || l.getD (l.getD a 0).toNat 0 != (a : Int)
def rdF (n : Nat) (l : List Int) : Nat := if l.length ≠ n then 2 else if outB n l then 1 else if notB n l then 4 else 0
def rdsF (n : Nat) : List (List Int) → Nat
  | [] => 0
  | l :: ls => if rdF n l ≠ 0 then rdF n l else rdsF n ls
def twB (n : Nat) (ls : List (List Int)) : Bool := (List.range ls.length).any fun i => (List.range i).any fun j => (List.range n).any fun a => (ls.getD i []).getD a 0 == (ls.getD j []).getD a 0
/-- What is wrong with rounds. -/
def rF (n : Int) (ls : List (List Int)) : Nat := if n < 2 ∨ 16 < n ∨ n % 2 = 1 then 1 else if n - 1 < ls.length then 3 else if rdsF n.toNat ls ≠ 0 then rdsF n.toNat ls else if twB n.toNat ls then 6 else 0
theorem rdsF_at : ∀ {n : Nat} {ls : List (List Int)} {i : Nat} {l : List Int}, ls[i]? = some l → (∀ j m, j < i → ls[j]? = some m → rdF n m = 0) → rdF n l ≠ 0 → rdsF n ls = rdF n l
  | n, [], i, l, h, _, _ => by simp at h
  | n, m :: ls, 0, l, h, _, h2 => by
    simp at h
    subst h
    show (if rdF n m ≠ 0 then rdF n m else rdsF n ls) = rdF n m
    rw [if_pos h2]
  | n, m :: ls, i + 1, l, h, h1, h2 => by
    simp at h
    show (if rdF n m ≠ 0 then rdF n m else rdsF n ls) = rdF n l
    rw [if_neg (by rw [h1 0 m (by omega) rfl]; simp)]
    exact rdsF_at h (fun j q hj hq => h1 (j + 1) q (by omega) (by simpa using hq)) h2
theorem rdsF_none : ∀ {n : Nat} {ls : List (List Int)}, (∀ (j : Nat) m, ls[j]? = some m → rdF n m = 0) → rdsF n ls = 0
  | n, [], _ => rfl
  | n, m :: ls, h => by
    show (if rdF n m ≠ 0 then rdF n m else rdsF n ls) = 0
    rw [if_neg (by rw [h 0 m rfl]; simp)]
    exact rdsF_none fun j q hq => h (j + 1) q (by simpa using hq)
theorem rdsF_ok : ∀ {n : Nat} {ls : List (List Int)}, rdsF n ls = 0 → ∀ l ∈ ls, rdF n l = 0
  | n, [], _, l, h => by simp at h
  | n, m :: ls, h, l, hl => by
    have h' : (if rdF n m ≠ 0 then rdF n m else rdsF n ls) = 0 := h
    by_cases h0 : rdF n m = 0
    · rw [if_neg (by rw [h0]; simp)] at h'
      rcases List.mem_cons.1 hl with rfl | hl
      · exact h0
      · exact rdsF_ok h' l hl
    · rw [if_pos h0] at h'
      exact absurd h' h0
/-- A list of numbers that are none below 0. -/
theorem nat_list : ∀ {l : List Int}, (∀ x ∈ l, 0 ≤ x) → ∃ s : List Nat, l = s.map Int.ofNat
  | [], _ => ⟨[], rfl⟩
  | x :: l, h => by
    obtain ⟨s, hs⟩ := nat_list (l := l) fun y hy => h y (by simp [hy])
    refine ⟨x.toNat :: s, ?_⟩
    rw [List.map_cons, ← hs]
    have := h x (by simp)
    congr 1
    show x = (x.toNat : Int)
    omega
theorem nat_at (s : List Nat) (a : Nat) : (s.map Int.ofNat).getD a 0 = ((s.getD a 0 : Nat) : Int) := by
  rw [List.getD_eq_getElem?_getD, List.getD_eq_getElem?_getD, List.getElem?_map]
  cases s[a]? <;> rfl
theorem rdF_ok {n : Nat} {l : List Int} (h : rdF n l = 0) : ∃ s : List Nat, l = s.map Int.ofNat ∧ s.length = n ∧ Rnd n fun x => s.getD x 0 := by
  unfold rdF at h
  by_cases h1 : l.length ≠ n
  · rw [if_pos h1] at h; omega
  rw [if_neg h1] at h
  by_cases h2 : outB n l = true
  · rw [if_pos h2] at h; omega
  rw [if_neg h2] at h
  by_cases h3 : notB n l = true
  · rw [if_pos h3] at h; omega
  have h1' : l.length = n := Classical.byContradiction h1
  have o : ∀ a, a < n → 0 ≤ l.getD a 0 ∧ l.getD a 0 < n := fun a ha => by
    refine Classical.byContradiction fun hc => h2 (List.any_eq_true.2 ⟨a, List.mem_range.2 ha, ?_⟩)
    simp only [Bool.or_eq_true, decide_eq_true_eq]
    omega
  obtain ⟨s, rfl⟩ := nat_list (l := l) fun x hx => by
    obtain ⟨i, hi⟩ := List.getElem?_of_mem hx
    have hlt := (List.getElem?_eq_some_iff.1 hi).1
    have := (o i (by omega)).1
    rw [List.getD_eq_getElem?_getD, hi] at this
    exact this
  rw [List.length_map] at h1'
  refine ⟨s, rfl, h1', fun a ha => ?_⟩
  have k := o a ha
  rw [nat_at] at k
  have k2 : ¬ ((s.map Int.ofNat).getD a 0 == (a : Int) || (s.map Int.ofNat).getD ((s.map Int.ofNat).getD a 0).toNat 0 != (a : Int)) = true := fun hc => h3 (List.any_eq_true.2 ⟨a, List.mem_range.2 ha, hc⟩)
  rw [nat_at, Int.toNat_natCast, nat_at] at k2
  simp only [Bool.or_eq_true, not_or, beq_iff_eq, bne_iff_ne] at k2
  show s.getD a 0 < n ∧ s.getD a 0 ≠ a ∧ s.getD (s.getD a 0) 0 = a
  omega
theorem rdF_of {n : Nat} {s : List Nat} (hl : s.length = n) (hr : Rnd n fun x => s.getD x 0) : rdF n (s.map Int.ofNat) = 0 := by
  unfold rdF
  rw [if_neg (by rw [List.length_map]; simp [hl]), if_neg, if_neg]
  · intro h
    obtain ⟨a, ha, h⟩ := List.any_eq_true.1 h
    have k : s.getD a 0 < n ∧ s.getD a 0 ≠ a ∧ s.getD (s.getD a 0) 0 = a := hr a (List.mem_range.1 ha)
    rw [nat_at, Int.toNat_natCast, nat_at] at h
    simp only [Bool.or_eq_true, beq_iff_eq, bne_iff_ne] at h
    omega
  · intro h
    obtain ⟨a, ha, h⟩ := List.any_eq_true.1 h
    have k : s.getD a 0 < n ∧ s.getD a 0 ≠ a ∧ s.getD (s.getD a 0) 0 = a := hr a (List.mem_range.1 ha)
    rw [nat_at] at h
    simp only [Bool.or_eq_true, decide_eq_true_eq] at h
    omega
theorem nat_lists {P : List Nat → Prop} : ∀ {ls : List (List Int)}, (∀ l ∈ ls, ∃ s : List Nat, l = s.map Int.ofNat ∧ P s) → ∃ L : List (List Nat), ls = L.map (fun s => s.map Int.ofNat) ∧ ∀ s ∈ L, P s
  | [], _ => ⟨[], rfl, by simp⟩
  | l :: ls, h => by
    obtain ⟨s, hs, ps⟩ := h l (by simp)
    obtain ⟨L, hL, pL⟩ := nat_lists (P := P) (ls := ls) fun m hm => h m (by simp [hm])
    refine ⟨s :: L, by rw [List.map_cons, ← hs, ← hL], fun t ht => ?_⟩
    rcases List.mem_cons.1 ht with rfl | ht
    · exact ps
    · exact pL t ht
theorem lists_at (L : List (List Nat)) (i a : Nat) : ((L.map fun s => s.map Int.ofNat).getD i []).getD a 0 = (((L.getD i []).getD a 0 : Nat) : Int) := by
  rw [List.getD_eq_getElem?_getD (l := L.map _), List.getD_eq_getElem?_getD (l := L), List.getElem?_map]
  cases L[i]? with
  | none => simp
  | some s => exact nat_at s a
/-- What passes: teams and rounds. -/
structure GoodR (n : Nat) (L : List (List Nat)) : Prop where
  two : 2 ≤ n
  le : n ≤ 16
  even : n % 2 = 0
  few : L.length ≤ n - 1
  rds : Rds n L
theorem GoodR.evn {n : Nat} {L : List (List Nat)} (h : GoodR n L) : Evn n := by
  have := h.two; have := h.le; have := h.even
  unfold Evn
  omega
theorem rF_ok {n : Int} {ls : List (List Int)} (h : rF n ls = 0) : ∃ (N : Nat) (L : List (List Nat)), n = N ∧ ls = L.map (fun s => s.map Int.ofNat) ∧ GoodR N L := by
  unfold rF at h
  by_cases h1 : n < 2 ∨ 16 < n ∨ n % 2 = 1
  · rw [if_pos h1] at h; omega
  rw [if_neg h1] at h
  by_cases h2 : n - 1 < ls.length
  · rw [if_pos h2] at h; omega
  rw [if_neg h2] at h
  by_cases h3 : rdsF n.toNat ls ≠ 0
  · rw [if_pos h3] at h; omega
  rw [if_neg h3] at h
  by_cases h4 : twB n.toNat ls = true
  · rw [if_pos h4] at h; omega
  obtain ⟨N, rfl⟩ : ∃ N : Nat, n = N := ⟨n.toNat, by omega⟩
  rw [Int.toNat_natCast] at h3 h4
  obtain ⟨L, rfl, hL⟩ := nat_lists fun l hl => rdF_ok (rdsF_ok (Classical.byContradiction h3) l hl)
  rw [List.length_map] at h2
  refine ⟨N, L, rfl, rfl, by omega, by omega, by omega, by omega, fun l hl => (hL l hl).1, fun l hl => (hL l hl).2, fun i j hj hi a ha e => h4 ?_⟩
  refine List.any_eq_true.2 ⟨i, List.mem_range.2 (by rw [List.length_map]; exact hi), List.any_eq_true.2 ⟨j, List.mem_range.2 hj, List.any_eq_true.2 ⟨a, List.mem_range.2 ha, ?_⟩⟩⟩
  rw [lists_at, lists_at, e]
  simp
theorem GoodR.rF {n : Nat} {L : List (List Nat)} (h : GoodR n L) : rF n (L.map fun s => s.map Int.ofNat) = 0 := by
  have h1 := h.two; have h2 := h.le; have h3 := h.even; have h4 := h.few
  unfold Go.Proofs.Ytpeplnojmogkfaa.rF
  rw [if_neg (by omega), if_neg (by rw [List.length_map]; omega), Int.toNat_natCast, rdsF_none, if_neg (by simp), if_neg]
  · intro k
    obtain ⟨i, hi, k⟩ := List.any_eq_true.1 k
    obtain ⟨j, hj, k⟩ := List.any_eq_true.1 k
    obtain ⟨a, ha, k⟩ := List.any_eq_true.1 k
    rw [lists_at, lists_at] at k
    have hi := List.mem_range.1 hi
    rw [List.length_map] at hi
    refine h.rds.once i j (List.mem_range.1 hj) hi a (List.mem_range.1 ha) ?_
    have := eq_of_beq k
    omega
  · intro j m hm
    have hmm := List.mem_of_getElem? hm
    obtain ⟨s, hs, rfl⟩ := List.mem_map.1 hmm
    exact rdF_of (h.rds.len s hs) (h.rds.rnd s hs)
end Go.Proofs.Ytpeplnojmogkfaa
