/- Words in a group of permutations: what commutators make; points that are not moved laid behind; nothing of the program. -/
import Derived.Test.YtmaplmgecohjbaaGMore
namespace Go.Proofs.Ytmaplmgecohjbaa

theorem then_assoc' {n : Nat} {a b c : List Nat} (ha : IsP n a) (hb : IsP n b) : thenL (thenL a b) c = thenL a (thenL b c) := then_assoc ha hb.len
theorem inv_then' {n : Nat} {a b : List Nat} (ha : IsP n a) (hb : IsP n b) : thenL (invL n a) (thenL a b) = b := by
  rw [← then_assoc' (invL_isP ha) ha, inv_then ha, id_then hb.len]
theorem then_inv' {n : Nat} {a b : List Nat} (ha : IsP n a) (hb : IsP n b) : thenL a (thenL (invL n a) b) = b := by
  rw [← then_assoc' ha (invL_isP ha), then_inv ha, id_then hb.len]
theorem inv_one {n : Nat} {a u : List Nat} (ha : IsP n a) (hu : IsP n u) (h : thenL u a = idL n) : u = invL n a :=
  then_cancel ha hu (invL_isP ha) (by rw [h, inv_then ha])
theorem inv_mul {n : Nat} {a b : List Nat} (ha : IsP n a) (hb : IsP n b) : invL n (thenL a b) = thenL (invL n b) (invL n a) := by
  refine (inv_one (ha.then hb) ((invL_isP hb).then (invL_isP ha)) ?_).symm
  rw [then_assoc' (invL_isP hb) (invL_isP ha), inv_then' ha hb, inv_then hb]
theorem inv_inv {n : Nat} {a : List Nat} (ha : IsP n a) : invL n (invL n a) = a := (inv_one (invL_isP ha) ha (then_inv ha)).symm
/-- a undone, b undone, a, b. -/
def comm (n : Nat) (a b : List Nat) : List Nat := thenL (invL n a) (thenL (invL n b) (thenL a b))
theorem comm_isP {n : Nat} {a b : List Nat} (ha : IsP n a) (hb : IsP n b) : IsP n (comm n a b) := (invL_isP ha).then ((invL_isP hb).then (ha.then hb))

/-- What the commutators of all members with makers make. -/
def DerM (n : Nat) (ms : List (List Nat)) : List Nat → Prop := fun c => ∃ a b, Gen n ms a ∧ b ∈ ms ∧ c = comm n a b
def DerA (n : Nat) (ms : List (List Nat)) : List Nat → Prop := fun c => ∃ a b, Gen n ms a ∧ Gen n ms b ∧ c = comm n a b
/-- A group that holds the commutators with makers holds what each member turns of them. -/
theorem der_turn {n : Nat} {ms : List (List Nat)} (hm : ∀ m ∈ ms, IsP n m) {N : List Nat → Prop} (hN : Grp n N) (h : ∀ c, DerM n ms c → N c) {x : List Nat} (hx : Gen n ms x) {a m : List Nat} (ha : Gen n ms a) (hb : m ∈ ms) :
    N (thenL (invL n x) (thenL (comm n a m) x)) := by
  have px := hx.isP hm
  have pa := ha.isP hm
  have pm := hm m hb
  have e : thenL (invL n x) (thenL (comm n a m) x) = thenL (comm n (thenL a x) m) (invL n (comm n x m)) := by
    have ia := invL_isP pa
    have ix := invL_isP px
    have im := invL_isP pm
    unfold comm
    simp (disch := first | assumption | (repeat (first | assumption | apply IsP.then | apply invL_isP))) only [inv_mul, inv_inv, then_assoc', then_inv']
  rw [e]
  exact hN.mul _ _ (h _ ⟨_, _, ha.then hm hx, hb, rfl⟩) (hN.inv (h _ ⟨_, _, hx, hb, rfl⟩))
theorem gen_in {n : Nat} {cs : List (List Nat)} {N : List Nat → Prop} (hN : Grp n N) (h : ∀ c ∈ cs, N c) {a : List Nat} (ha : Gen n cs a) : N a := by
  induction ha with
  | one => exact hN.one
  | step a m _ h2 ih => exact hN.mul _ _ ih (h m h2)
/-- A group made of commutators, with makers, that holds all of these, holds all commutators. -/
theorem der_all {n : Nat} {ms cs : List (List Nat)} (hm : ∀ m ∈ ms, IsP n m) (hc : ∀ c ∈ cs, DerM n ms c) (h : ∀ c, DerM n ms c → Gen n cs c) : ∀ c, DerA n ms c → Gen n cs c := by
  have pc : ∀ c ∈ cs, IsP n c := fun c h => by
    obtain ⟨a, b, h1, h2, rfl⟩ := hc c h
    exact comm_isP (h1.isP hm) (hm b h2)
  have hN := gen_grp pc
  -- each member of it, turned, is in it
  have turn : ∀ x, Gen n ms x → ∀ c, Gen n cs c → Gen n cs (thenL (invL n x) (thenL c x)) := by
    intro x hx c hcc
    have px := hx.isP hm
    induction hcc with
    | one => rw [id_then px.len, inv_then px]; exact .one
    | step c d h1 h2 ih =>
      obtain ⟨a, b, k1, k2, rfl⟩ := hc d h2
      have t := der_turn hm hN h hx k1 k2
      have e : thenL (invL n x) (thenL (thenL c (comm n a b)) x) = thenL (thenL (invL n x) (thenL c x)) (thenL (invL n x) (thenL (comm n a b) x)) := by
        have ix := invL_isP px
        have p1 := h1.isP pc
        have p2 := pc _ h2
        rw [then_assoc' ix (p1.then px), then_assoc' p1 px, then_inv' px (p2.then px), then_assoc' p1 p2]
      rw [e]
      exact hN.mul _ _ ih t
  rintro c ⟨a, b, ha, hb, rfl⟩
  have pa := ha.isP hm
  induction hb with
  | one =>
    have e : comm n a (idL n) = idL n := by
      unfold comm
      have e1 : invL n (idL n) = idL n := (inv_one (isP_id n) (isP_id n) (id_then (idL_len n))).symm
      rw [then_id pa, e1, id_then pa.len, inv_then pa]
    rw [e]; exact .one
  | step b m h1 h2 ih =>
    have pb := h1.isP hm
    have pm := hm m h2
    have e : comm n a (thenL b m) = thenL (comm n a m) (thenL (invL n m) (thenL (comm n a b) m)) := by
      unfold comm
      simp (disch := first | assumption | (repeat (first | assumption | apply IsP.then | apply invL_isP))) only [inv_mul, then_assoc', then_inv']
    rw [e]
    exact hN.mul _ _ (h _ ⟨a, m, ha, h2, rfl⟩) (turn m (Gen.maker hm h2) _ ih)

/-! ### points that are not moved, laid behind -/
def ext (n : Nat) (l : List Nat) : List Nat := (List.range 7).map fun i => if i < n then l.getD i 0 else i
theorem ext_len (n : Nat) (l : List Nat) : (ext n l).length = 7 := by simp [ext]
theorem ext_at {n : Nat} (l : List Nat) {i : Nat} (hi : i < 7) : (ext n l).getD i 0 = if i < n then l.getD i 0 else i := by simp [ext, hi]
theorem ext_lo {n : Nat} (hn : n ≤ 7) (l : List Nat) {i : Nat} (hi : i < n) : (ext n l).getD i 0 = l.getD i 0 := by rw [ext_at l (by omega), if_pos hi]
theorem ext_hi {n : Nat} (l : List Nat) {i : Nat} (hi : n ≤ i) (h7 : i < 7) : (ext n l).getD i 0 = i := by rw [ext_at l h7, if_neg (by omega)]
theorem ext_lt {n : Nat} {l : List Nat} (h : IsP n l) (hn : n ≤ 7) {i : Nat} (hi : i < 7) : (ext n l).getD i 0 < 7 := by
  rw [ext_at l hi]
  split
  · have := h.at ‹i < n›; omega
  · exact hi
theorem ext_isP {n : Nat} {l : List Nat} (h : IsP n l) (hn : n ≤ 7) : IsP 7 (ext n l) := by
  unfold ext
  refine isP_of ⟨fun i hi => ?_, fun i j hi hj e => ?_⟩
  · split
    · have := h.at ‹i < n›; omega
    · exact hi
  · by_cases h1 : i < n
    · by_cases h2 : j < n
      · rw [if_pos h1, if_pos h2] at e; exact h.pm.inj i j h1 h2 e
      · rw [if_pos h1, if_neg h2] at e; have := h.at h1; omega
    · by_cases h2 : j < n
      · rw [if_neg h1, if_pos h2] at e; have := h.at h2; omega
      · rw [if_neg h1, if_neg h2] at e; exact e
theorem ext_inj {n : Nat} {a b : List Nat} (ha : a.length = n) (hb : b.length = n) (hn : n ≤ 7) (e : ext n a = ext n b) : a = b :=
  isP_ext ha hb fun i hi => by rw [← ext_lo hn a hi, e, ext_lo hn b hi]
theorem ext_id {n : Nat} (_hn : n ≤ 7) : ext n (idL n) = idL 7 :=
  isP_ext (ext_len _ _) (idL_len 7) fun i hi => by
    rw [ext_at _ hi, idL_at hi]
    split
    · exact idL_at ‹_›
    · rfl
theorem ext_then {n : Nat} {a b : List Nat} (ha : IsP n a) (hn : n ≤ 7) : ext n (thenL a b) = thenL (ext n a) (ext n b) :=
  isP_ext (ext_len _ _) (by rw [thenL_len, ext_len]) fun i hi => by
    rw [thenL_at (ext_len n a) hi, ext_at _ hi, ext_at a hi]
    by_cases h : i < n
    · rw [if_pos h, if_pos h, thenL_at ha.len h, ext_lo hn b (ha.at h)]
    · rw [if_neg h, if_neg h, ext_hi b (by omega) hi]
theorem ext_inv {n : Nat} {a : List Nat} (ha : IsP n a) (hn : n ≤ 7) : ext n (invL n a) = invL 7 (ext n a) :=
  inv_one (ext_isP ha hn) (ext_isP (invL_isP ha) hn) (by rw [← ext_then (invL_isP ha) hn, inv_then ha, ext_id hn])
theorem ext_comm {n : Nat} {a b : List Nat} (ha : IsP n a) (hb : IsP n b) (hn : n ≤ 7) : ext n (comm n a b) = thenL (thenL (thenL (invL 7 (ext n a)) (invL 7 (ext n b))) (ext n a)) (ext n b) := by
  have ia := invL_isP ha
  have ib := invL_isP hb
  unfold comm
  rw [ext_then ia hn, ext_then ib hn, ext_then ha hn, ext_inv ha hn, ext_inv hb hn]
  have pa := ext_isP ha hn
  have pb := ext_isP hb hn
  rw [then_assoc' ((invL_isP pa).then (invL_isP pb)) pa, then_assoc' (invL_isP pa) (invL_isP pb)]

end Go.Proofs.Ytmaplmgecohjbaa
