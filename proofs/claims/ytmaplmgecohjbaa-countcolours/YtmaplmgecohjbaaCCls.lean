/- Classes of colourings, found by going from one to the next; nothing of the program. -/
import Derived.Test.YtmaplmgecohjbaaCKind
namespace Go.Proofs.Ytmaplmgecohjbaa

/-- The least colouring of a class. -/
noncomputable def rp (n k : Nat) (ms : List (List Nat)) (c : Nat) : Nat := repA (List.range (k ^ n)) (Gen n ms) (actC n k) c
theorem rp_orb {n k : Nat} {ms : List (List Nat)} (hk : 0 < k) (hm : ∀ m ∈ ms, IsP n m) {c : Nat} (hc : c < k ^ n) : rp n k ms c < k ^ n ∧ OrbA (Gen n ms) (actC n k) c (rp n k ms c) := by
  have h := mem_orbA.1 (repA_mem (actC_acts hk) (gen_grp hm) (List.mem_range.2 hc))
  exact ⟨List.mem_range.1 h.1, h.2⟩
theorem rp_eq {n k : Nat} {ms : List (List Nat)} (hk : 0 < k) (hm : ∀ m ∈ ms, IsP n m) {c d : Nat} (hc : c < k ^ n) (hd : d < k ^ n) : rp n k ms c = rp n k ms d ↔ OrbA (Gen n ms) (actC n k) c d :=
  repA_eq (actC_acts hk) (gen_grp hm) (List.mem_range.2 hc) (List.mem_range.2 hd)
theorem repA_le {n N : Nat} {act : List Nat → Nat → Nat} {G : List Nat → Prop} (h : Acts n (List.range N) act) (hG : Grp n G) {c : Nat} (hc : c < N) : repA (List.range N) G act c ≤ c := by
  have hm : c ∈ orbA (List.range N) G act c := mem_orbA.2 ⟨List.mem_range.2 hc, OrbA.refl h hG (List.mem_range.2 hc)⟩
  have hp : (orbA (List.range N) G act c).Pairwise (· < ·) := List.pairwise_lt_range.filter _
  unfold repA
  cases he : orbA (List.range N) G act c with
  | nil => simp
  | cons a t =>
    rw [he] at hm hp
    rw [List.headD_cons]
    rcases List.mem_cons.1 hm with e | e
    · omega
    · exact Nat.le_of_lt ((List.pairwise_cons.1 hp).1 c e)
theorem rp_le {n k : Nat} {ms : List (List Nat)} (hk : 0 < k) (hm : ∀ m ∈ ms, IsP n m) {c : Nat} (hc : c < k ^ n) : rp n k ms c ≤ c := repA_le (actC_acts hk) (gen_grp hm) hc

theorem nodup_below : ∀ (N : Nat) {L : List Nat}, L.Nodup → (∀ x ∈ L, x < N) → L.length ≤ N
  | 0, L, _, h => by
    cases L with
    | nil => simp
    | cons a l => have := h a (by simp); omega
  | N + 1, L, hn, h => by
    have h1 := nodup_below N (L := L.erase N) (hn.erase N) fun x hx => by
      have h2 := h x (List.mem_of_mem_erase hx)
      have h3 : x ≠ N := ((List.Nodup.mem_erase_iff hn).1 hx).1
      omega
    have h4 : L.length ≤ (L.erase N).length + 1 := by rw [List.length_erase]; split <;> omega
    omega
/-- A part of a class, from c on. -/
structure MadeO (n k : Nat) (ms : List (List Nat)) (c : Nat) (L : List Nat) : Prop where
  nd : L.Nodup
  root : c ∈ L
  orb : ∀ x ∈ L, x < k ^ n ∧ OrbA (Gen n ms) (actC n k) c x
/-- What comes of the first t of them, and of the next by the first j makers, is there. -/
structure CloO (n k : Nat) (ms : List (List Nat)) (L : List Nat) (t j : Nat) : Prop where
  all : ∀ i x, i < t → L[i]? = some x → ∀ m ∈ ms, actC n k m x ∈ L
  part : ∀ x, L[t]? = some x → ∀ i m, i < j → ms[i]? = some m → actC n k m x ∈ L
theorem MadeO.start {n k : Nat} {ms : List (List Nat)} (hk : 0 < k) (hm : ∀ m ∈ ms, IsP n m) {c : Nat} (hc : c < k ^ n) : MadeO n k ms c [c] :=
  ⟨by simp, by simp, fun x hx => by rw [List.mem_singleton.1 hx]; exact ⟨hc, OrbA.refl (actC_acts hk) (gen_grp hm) (List.mem_range.2 hc)⟩⟩
theorem CloO.start {n k : Nat} {ms : List (List Nat)} {L : List Nat} : CloO n k ms L 0 0 := ⟨fun i x h => by omega, fun x _ i m h => by omega⟩
theorem MadeO.len {n k c : Nat} {ms : List (List Nat)} {L : List Nat} (h : MadeO n k ms c L) : L.length ≤ k ^ n := by
  exact nodup_below (k ^ n) h.nd fun x hx => (h.orb x hx).1
theorem MadeO.step {n k c x : Nat} {ms : List (List Nat)} {Q : List Nat} (hk : 0 < k) (hm : ∀ m ∈ ms, IsP n m) (hc : c < k ^ n) (h : MadeO n k ms c Q) (hx : x ∈ Q) {m : List Nat} (hmm : m ∈ ms) : actC n k m x < k ^ n ∧ OrbA (Gen n ms) (actC n k) c (actC n k m x) := by
  obtain ⟨h1, h2⟩ := h.orb x hx
  exact ⟨actC_lt hk (hm m hmm) x, h2.trans (actC_acts hk) (gen_grp hm) (List.mem_range.2 hc) ⟨m, Gen.maker hm hmm, rfl⟩⟩
theorem MadeO.add {n k c x : Nat} {ms : List (List Nat)} {L : List Nat} (hk : 0 < k) (hm : ∀ m ∈ ms, IsP n m) (hc : c < k ^ n) (h : MadeO n k ms c L) (hx : x ∈ L) {m : List Nat} (hmm : m ∈ ms) (hn : actC n k m x ∉ L) : MadeO n k ms c (L ++ [actC n k m x]) := by
  have hs := h.step hk hm hc hx hmm
  refine ⟨List.nodup_append.2 ⟨h.nd, by simp, fun a ha b hb e => ?_⟩, by simp [h.root], fun y hy => ?_⟩
  · rw [List.mem_singleton.1 hb] at e
    exact hn (e ▸ ha)
  · rcases List.mem_append.1 hy with h1 | h1
    · exact h.orb y h1
    · rw [List.mem_singleton.1 h1]; exact hs
theorem CloO.grow {n k t j y : Nat} {ms : List (List Nat)} {L : List Nat} (h : CloO n k ms L t j) (ht : t < L.length) : CloO n k ms (L ++ [y]) t j :=
  ⟨fun i x hi hx m hm => by
    rw [List.getElem?_append_left (by omega)] at hx
    exact List.mem_append.2 (.inl (h.all i x hi hx m hm)),
   fun x hx i m hi hm => by
    rw [List.getElem?_append_left ht] at hx
    exact List.mem_append.2 (.inl (h.part x hx i m hi hm))⟩
theorem CloO.next {n k t j x : Nat} {ms : List (List Nat)} {L : List Nat} {m : List Nat} (h : CloO n k ms L t j) (hx : L[t]? = some x) (hm : ms[j]? = some m) (hin : actC n k m x ∈ L) : CloO n k ms L t (j + 1) :=
  ⟨h.all, fun x' hx' i m' hi hm' => by
    rw [hx] at hx'
    cases hx'
    by_cases e : i = j
    · subst e
      rw [hm] at hm'
      cases hm'
      exact hin
    · exact h.part x hx i m' (by omega) hm'⟩
theorem CloO.turn {n k t : Nat} {ms : List (List Nat)} {L : List Nat} (h : CloO n k ms L t ms.length) : CloO n k ms L (t + 1) 0 :=
  ⟨fun i x hi hx m hm => by
    by_cases e : i = t
    · subst e
      obtain ⟨q, hq, rfl⟩ := List.getElem_of_mem hm
      exact h.part x hx q _ hq (List.getElem?_eq_getElem hq)
    · exact h.all i x (by omega) hx m hm,
   fun x _ i m hi => by omega⟩
/-- What is closed is the whole class. -/
theorem MadeO.whole {n k c : Nat} {ms : List (List Nat)} {L : List Nat} (hk : 0 < k) (hm : ∀ m ∈ ms, IsP n m) (hc : c < k ^ n) (h : MadeO n k ms c L) (hcl : CloO n k ms L L.length 0) {x : Nat} : x ∈ L ↔ x < k ^ n ∧ OrbA (Gen n ms) (actC n k) c x := by
  refine ⟨h.orb x, ?_⟩
  rintro ⟨hx, a, ha, rfl⟩
  induction ha with
  | one => rw [(actC_acts hk).one c (List.mem_range.2 hc)]; exact h.root
  | step a m h1 h2 ih =>
    have ha := h1.isP hm
    rw [(actC_acts hk).mul a m c ha (hm m h2) (List.mem_range.2 hc)]
    have := ih (actC_lt hk ha c)
    obtain ⟨q, hq, e⟩ := List.getElem_of_mem this
    have e' : L[q]? = some (actC n k a c) := by rw [List.getElem?_eq_getElem hq, e]
    exact hcl.all q _ hq e' m h2

/-- The marks ahead of c. -/
noncomputable def mkF (n k : Nat) (ms : List (List Nat)) (c : Nat) : Nat → Int := fun x => if rp n k ms x < c then (rp n k ms x : Int) else -1
open Classical in
/-- The marks while c's class is found. -/
noncomputable def mkL (n k : Nat) (ms : List (List Nat)) (c : Nat) (L : List Nat) : Nat → Int := fun x => if x ∈ L then (c : Int) else mkF n k ms c x
theorem mkL_snoc {n k c y : Nat} {ms : List (List Nat)} {L : List Nat} (x : Nat) : (if x = y then (c : Int) else mkL n k ms c L x) = mkL n k ms c (L ++ [y]) x := by
  unfold mkL
  by_cases e : x = y
  · rw [if_pos e, if_pos (by simp [e])]
  · rw [if_neg e]
    by_cases h : x ∈ L
    · rw [if_pos h, if_pos (by simp [h])]
    · rw [if_neg h, if_neg (by simp [h, e])]
/-- A mark is not set just where the class is still to be found. -/
theorem mkL_neg {n k c x : Nat} {ms : List (List Nat)} {L : List Nat} (hk : 0 < k) (hm : ∀ m ∈ ms, IsP n m) (hc : c < k ^ n) (hr : rp n k ms c = c) (hx : x < k ^ n) (ho : OrbA (Gen n ms) (actC n k) c x) : (mkL n k ms c L x < 0 ↔ x ∉ L) ∧ (mkL n k ms c L x = -1 ∨ mkL n k ms c L x = c) := by
  have e : rp n k ms x = c := by rw [← (rp_eq hk hm hc hx).2 ho, hr]
  unfold mkL mkF
  by_cases h : x ∈ L
  · rw [if_pos h]; exact ⟨⟨fun h' => by omega, fun h' => absurd h h'⟩, .inr rfl⟩
  · rw [if_neg h, if_neg (by omega)]; exact ⟨⟨fun _ => h, fun _ => by omega⟩, .inl rfl⟩
theorem mkL_done {n k c x : Nat} {ms : List (List Nat)} {L : List Nat} (hk : 0 < k) (hm : ∀ m ∈ ms, IsP n m) (hc : c < k ^ n) (hr : rp n k ms c = c) (h : MadeO n k ms c L) (hcl : CloO n k ms L L.length 0) (hx : x < k ^ n) : mkL n k ms c L x = mkF n k ms (c + 1) x := by
  unfold mkL
  by_cases e : x ∈ L
  · have h2 := ((h.whole hk hm hc hcl).1 e).2
    have h3 : rp n k ms x = c := by rw [← (rp_eq hk hm hc hx).2 h2, hr]
    rw [if_pos e]; unfold mkF; rw [h3, if_pos (by omega)]
  · rw [if_neg e]
    have h3 : rp n k ms x ≠ c := fun e2 => e ((h.whole hk hm hc hcl).2 ⟨hx, (rp_eq hk hm hc hx).1 (by rw [hr, e2])⟩)
    unfold mkF
    by_cases h4 : rp n k ms x < c
    · rw [if_pos h4, if_pos (by omega)]
    · rw [if_neg h4, if_neg (by omega)]
theorem mkF_skip {n k c x : Nat} {ms : List (List Nat)} (hk : 0 < k) (hm : ∀ m ∈ ms, IsP n m) (hc : c < k ^ n) (hr : rp n k ms c ≠ c) (hx : x < k ^ n) : mkF n k ms c x = mkF n k ms (c + 1) x := by
  unfold mkF
  have h3 : rp n k ms x ≠ c := fun e => by
    -- the least of a class is its own least
    have h1 := rp_orb hk hm hx
    rw [e] at h1
    exact hr (((rp_eq hk hm hx hc).2 h1.2).symm.trans e)
  by_cases h4 : rp n k ms x < c
  · rw [if_pos h4, if_pos (by omega)]
  · rw [if_neg h4, if_neg (by omega)]
theorem mkF_own {n k c : Nat} {ms : List (List Nat)} (hk : 0 < k) (hm : ∀ m ∈ ms, IsP n m) (hc : c < k ^ n) : (rp n k ms c = c ∧ mkF n k ms c c = -1) ∨ (rp n k ms c ≠ c ∧ 0 ≤ mkF n k ms c c ∧ mkF n k ms c c < c) := by
  have h := rp_le hk hm hc
  unfold mkF
  by_cases e : rp n k ms c = c
  · exact .inl ⟨e, by rw [if_neg (by omega)]⟩
  · exact .inr ⟨e, by rw [if_pos (by omega)]; omega, by rw [if_pos (by omega)]; omega⟩
theorem mkF_all {n k x : Nat} {ms : List (List Nat)} (hk : 0 < k) (hm : ∀ m ∈ ms, IsP n m) (hx : x < k ^ n) : mkF n k ms (k ^ n) x = (rp n k ms x : Int) := by
  unfold mkF; rw [if_pos (rp_orb hk hm hx).1]
theorem mkF_none {n k x : Nat} {ms : List (List Nat)} : mkF n k ms 0 x = -1 := by unfold mkF; rw [if_neg (by omega)]
theorem colG_count {n k : Nat} {ms : List (List Nat)} : colG n k ms = (List.range (k ^ n)).countP fun c => rp n k ms c == c := by
  unfold colG repsA
  rw [← List.countP_eq_length_filter]
  exact List.countP_congr fun c _ => by simp [rp]

end Go.Proofs.Ytmaplmgecohjbaa
