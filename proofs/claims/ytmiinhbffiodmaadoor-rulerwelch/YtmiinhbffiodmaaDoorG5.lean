/- The gaps of a whole list; what put and drop do to a row that knows them. -/
import Derived.Test.YtmiinhbffiodmaaDoorG4
import Derived.Test.YtmiinhbffiodmaaDoorRuB
namespace Go.Proofs.YtmiinhbffiodmaaDoor
open Go.RowKit Go.Maps

/-- What comes of all pairs, as they come: of each with those behind it. -/
def prGL {α : Type} (f : Nat → Nat → α) (n : Nat) : List α := (List.range n).flatMap fun i => (List.range i).map fun j => f i j
/-- The same, up to the j-th of the i-th. -/
def prGP {α : Type} (f : Nat → Nat → α) (i j : Nat) : List α := prGL f i ++ (List.range j).map fun k => f i k
theorem prGP_zero {α : Type} (f : Nat → Nat → α) (i : Nat) : prGP f i 0 = prGL f i := by simp [prGP]
theorem prGP_next {α : Type} (f : Nat → Nat → α) (i j : Nat) : prGP f i (j + 1) = prGP f i j ++ [f i j] := by
  unfold prGP
  rw [List.range_succ, List.map_append, List.append_assoc]
  rfl
theorem prGP_row {α : Type} (f : Nat → Nat → α) (i : Nat) : prGP f i i = prGP f (i + 1) 0 := by
  rw [prGP_zero]
  unfold prGP prGL
  rw [List.range_succ, List.flatMap_append]
  simp
theorem prGL_mem {α : Type} {f : Nat → Nat → α} {n : Nat} {x : α} : x ∈ prGL f n ↔ ∃ i j, j < i ∧ i < n ∧ f i j = x := by
  unfold prGL
  rw [List.mem_flatMap]
  constructor
  · rintro ⟨i, hi, hx⟩
    obtain ⟨j, hj, rfl⟩ := List.mem_map.1 hx
    exact ⟨i, j, List.mem_range.1 hj, List.mem_range.1 hi, rfl⟩
  · rintro ⟨i, j, hj, hi, rfl⟩
    exact ⟨i, List.mem_range.2 hi, List.mem_map.2 ⟨j, List.mem_range.2 hj, rfl⟩⟩
/-- UnlGike: no two pairs have the same. -/
def UnlG {α : Type} (f : Nat → Nat → α) (n : Nat) : Prop := ∀ i j k m, j < i → i < n → m < k → k < n → f i j = f k m → i = k ∧ j = m
theorem prGL_nodup {α : Type} {f : Nat → Nat → α} : ∀ {n : Nat}, (prGL f n).Nodup ↔ UnlG f n
  | 0 => ⟨fun _ i j k m h1 h2 => by omega, fun _ => by simp [prGL]⟩
  | n + 1 => by
    rw [← prGP_zero, ← prGP_row]
    unfold prGP
    rw [List.nodup_append, prGL_nodup (n := n)]
    constructor
    · rintro ⟨h1, h2, h3⟩ i j k m hj hi hm hk e
      have hinj : ∀ a b, a < n → b < n → f n a = f n b → a = b := fun a b ha hb e => by
        rw [List.nodup_iff_pairwise_ne, List.pairwise_map] at h2
        have h2' := List.pairwise_iff_getElem.1 h2
        rcases Nat.lt_trichotomy a b with h | h | h
        · exact absurd e (by have := h2' a b (by simpa using ha) (by simpa using hb) h; rwa [List.getElem_range, List.getElem_range] at this)
        · exact h
        · exact absurd e.symm (by have := h2' b a (by simpa using hb) (by simpa using ha) h; rwa [List.getElem_range, List.getElem_range] at this)
      by_cases e1 : i = n
      · by_cases e2 : k = n
        · subst e1
          subst e2
          exact ⟨rfl, hinj j m hj hm e⟩
        · subst e1
          exact absurd e.symm (h3 (f k m) (prGL_mem.2 ⟨k, m, hm, by omega, rfl⟩) (f i j) (List.mem_map.2 ⟨j, List.mem_range.2 hj, rfl⟩))
      · by_cases e2 : k = n
        · subst e2
          exact absurd e (h3 (f i j) (prGL_mem.2 ⟨i, j, hj, by omega, rfl⟩) (f k m) (List.mem_map.2 ⟨m, List.mem_range.2 hm, rfl⟩))
        · exact h1 i j k m hj (by omega) hm (by omega) e
    · intro h
      refine ⟨fun i j k m hj hi hm hk e => h i j k m hj (by omega) hm (by omega) e, ?_, ?_⟩
      · rw [List.nodup_iff_pairwise_ne, List.pairwise_map]
        refine List.Pairwise.imp_of_mem (R := fun a b => a ≠ b) (fun {a b} ha hb hne e => ?_) List.nodup_range
        exact hne (h n a n b (List.mem_range.1 ha) (by omega) (List.mem_range.1 hb) (by omega) e).2
      · intro x hx y hy e
        obtain ⟨k, m, hm, hk, rfl⟩ := prGL_mem.1 hx
        obtain ⟨j, hj, rfl⟩ := List.mem_map.1 hy
        have := (h k m n j hm (by omega) (List.mem_range.1 hj) (by omega) e).1
        omega

/-- The gaps of a list, as they come. -/
def gpL (ap : Int → Int → Int × Int) (l : List Int) : List (Int × Int) := (List.range l.length).flatMap fun i => nwG ap (l.take i) (l.getD i 0)
theorem flat_congr {α β : Type} {f g : α → List β} : ∀ {l : List α}, (∀ x ∈ l, f x = g x) → l.flatMap f = l.flatMap g
  | [], _ => rfl
  | a :: l, h => by rw [List.flatMap_cons, List.flatMap_cons, h a (by simp), flat_congr fun x hx => h x (by simp [hx])]
theorem gpL_snoc (ap : Int → Int → Int × Int) (l : List Int) (x : Int) : gpL ap (l ++ [x]) = gpL ap l ++ nwG ap l x := by
  unfold gpL
  rw [List.length_append, List.length_singleton, List.range_succ, List.flatMap_append]
  congr 1
  · refine flat_congr fun i hi => ?_
    have hi := List.mem_range.1 hi
    rw [List.take_append_of_le_length (by omega), List.getD_eq_getElem?_getD, List.getElem?_append_left hi, ← List.getD_eq_getElem?_getD]
  · simp
theorem gpL_pr (ap : Int → Int → Int × Int) (l : List Int) : gpL ap l = prGL (fun i j => ap ((i : Int) - (j : Int)) (l.getD i 0 - l.getD j 0)) l.length := by
  unfold gpL prGL
  refine flat_congr fun i hi => ?_
  have hi := List.mem_range.1 hi
  unfold nwG
  have e : (l.take i).length = i := by rw [List.length_take]; omega
  rw [e]
  refine List.map_congr_left fun j hj => ?_
  have hj := List.mem_range.1 hj
  rw [List.getD_eq_getElem?_getD (l := l.take i), List.getElem?_take, if_pos hj, ← List.getD_eq_getElem?_getD]
theorem gpL_len (ap : Int → Int → Int × Int) (l : List Int) : (gpL ap l).length ≤ l.length * l.length := by
  rw [gpL_pr]
  generalize l.length = n
  induction n with
  | zero => simp [prGL]
  | succ n ih =>
    rw [← prGP_zero, ← prGP_row]
    unfold prGP
    rw [List.length_append, List.length_map, List.length_range]
    have : (n + 1) * (n + 1) = n * n + 2 * n + 1 := by rw [Nat.add_mul, Nat.mul_add]; omega
    omega
/-- How often each gap of a list is there. -/
def TG (ap : Int → Int → Int × Int) (l : List Int) : Int × Int → Int := upT (fun _ => 0) (gpL ap l)
theorem TG_nil (ap : Int → Int → Int × Int) : TG ap [] = fun _ => 0 := by funext c; simp [TG, upT, gpL]
theorem TG_snoc (ap : Int → Int → Int × Int) (l : List Int) (x : Int) : upT (TG ap l) (nwG ap l x) = TG ap (l ++ [x]) := by
  funext c
  unfold TG
  rw [← upT_app, gpL_snoc]
theorem TG_bd (ap : Int → Int → Int × Int) {l : List Int} (h : l.length ≤ 60) (c : Int × Int) : 0 ≤ TG ap l c ∧ TG ap l c ≤ 100000 := by
  have h1 := gpL_len ap l
  have h2 := List.count_le_length (a := c) (l := gpL ap l)
  have h3 : l.length * l.length ≤ 60 * 60 := Nat.mul_le_mul h h
  show 0 ≤ (0 : Int) + ((gpL ap l).count c : Int) ∧ (0 : Int) + ((gpL ap l).count c : Int) ≤ 100000
  omega
theorem ft_nodup {G L : List (Int × Int)} (hG : G.Nodup) : ∀ i, i ≤ L.length → (ftB (upT (fun _ => 0) G) L i = true ↔ (G ++ L.take i).Nodup)
  | 0, _ => by simp [ftB, hG]
  | i + 1, hi => by
    have ih := ft_nodup hG (L := L) i (by omega)
    unfold ftB
    rw [Bool.and_eq_true, ih, take_upG (by omega), ← List.append_assoc, List.nodup_append (l₁ := G ++ L.take i), beq_iff_eq]
    rw [← upT_app]
    unfold upT
    refine and_congr_right fun _ => ?_
    constructor
    · intro h
      have h' : (0 : Int) + ((G ++ L.take i).count (L.getD i (0, 0)) : Int) = 0 := h
      have h0 : (G ++ L.take i).count (L.getD i (0, 0)) = 0 := by omega
      refine ⟨by simp, fun a ha b hb e => ?_⟩
      obtain rfl := List.mem_singleton.1 hb
      subst e
      exact absurd ha (List.count_eq_zero.1 h0)
    · rintro ⟨_, h⟩
      rw [List.count_eq_zero.2 fun hm => h _ hm _ (by simp) rfl]
      rfl
theorem ft_all {ap : Int → Int → Int × Int} {l : List Int} {x : Int} (hG : (gpL ap l).Nodup) : ftB (TG ap l) (nwG ap l x) l.length = decide (gpL ap (l ++ [x])).Nodup := by
  have h := ft_nodup hG (L := nwG ap l x) l.length (by rw [nwG_len]; exact Nat.le_refl _)
  rw [List.take_of_length_le (by rw [nwG_len]; exact Nat.le_refl _), ← gpL_snoc] at h
  rw [Bool.eq_iff_iff, decide_eq_true_eq]
  exact h
def apM : Int → Int → Int × Int := fun _ b => (0, b)
def apB : Int → Int → Int × Int := fun a b => (a, b)
theorem getD_of (l : List Nat) (i : Nat) : (l.map Int.ofNat).getD i 0 = ((l.getD i 0 : Nat) : Int) := by
  rw [List.getD_eq_getElem?_getD, List.getElem?_map, List.getD_eq_getElem?_getD]
  cases l[i]? <;> rfl
theorem gp_gol (l : List Nat) : decide (gpL apM (l.map Int.ofNat)).Nodup = golB l := by
  rw [Bool.eq_iff_iff, decide_eq_true_eq, golB_iff, gpL_pr, prGL_nodup, List.length_map]
  unfold UnlG Unl apM gdF
  simp only [getD_of, Prod.mk.injEq, true_and]
theorem gp_cos (l : List Nat) : decide (gpL apB (l.map Int.ofNat)).Nodup = cosB l.length fun i => l.getD i 0 := by
  rw [Bool.eq_iff_iff, decide_eq_true_eq, cosB_two, gpL_pr, prGL_nodup, List.length_map]
  unfold UnlG Cos2 apB
  simp only [getD_of, Prod.mk.injEq]
  constructor
  · intro h i j k m hij hj hkm hm hd e
    have := h j i m k hij hj hkm hm ⟨by omega, e⟩
    exact ⟨this.2, this.1⟩
  · rintro h i j k m hj hi hm hk ⟨hd, e⟩
    have := h j i m k hj hi hm hk (by omega) e
    exact ⟨this.2, this.1⟩
theorem put_row (ap : Int → Int → Int × Int) (base g m f n : Nat) (l : List Int) (x : Int) (w : World) (hA : ApF f ap) (hR : RowS w base g m f l (TG ap l) n) (hG : (gpL ap l).Nodup)
    (hx : 0 ≤ x ∧ x ≤ 1000000000) (hl : ∀ i, i < l.length → 0 ≤ l.getD i 0 ∧ l.getD i 0 ≤ 1000000000) (h60 : l.length ≤ 60) (hn : n ≤ 1000000000000000000) :
    Calls Tryd.prog 39 #[.pointer (some ⟨g, 0, none⟩), .int .i64 x] w fun e w' => e = .returned (.bool (decide (gpL ap (l ++ [x])).Nodup)) ∧ RowS w' base g m f (l ++ [x]) (TG ap (l ++ [x])) (n + l.length) ∧ Kr base g w w' := by
  rw [← ft_all hG, ← TG_snoc]
  exact put_any ap base g m f n l _ x w hA hR hx hl h60 (TG_bd ap h60) hn
theorem drop_row (ap : Int → Int → Int × Int) (base g m f n : Nat) (l : List Int) (x : Int) (w : World) (hA : ApF f ap) (hR : RowS w base g m f (l ++ [x]) (TG ap (l ++ [x])) n)
    (hx : 0 ≤ x ∧ x ≤ 1000000000) (hl : ∀ i, i < l.length → 0 ≤ l.getD i 0 ∧ l.getD i 0 ≤ 1000000000) (h60 : l.length ≤ 60) (hn : n ≤ 1000000000000000000) :
    Calls Tryd.prog 46 #[.pointer (some ⟨g, 0, none⟩)] w fun e w' => e = .returned (.tuple #[]) ∧ RowS w' base g m f l (TG ap l) (n + l.length) ∧ Kr base g w w' := by
  rw [← TG_snoc] at hR
  exact drop_any ap base g m f n l _ x w hA hR hx hl h60 (TG_bd ap h60) hn

end Go.Proofs.YtmiinhbffiodmaaDoor
