/- Runs of a strength: sums of products over their columns. Nothing of the program. -/
import Derived.Test.YtjfjdidibglhaabRaH
namespace Go.Proofs.Ytjfjdidibglhaab
/-- A product over some columns. -/
def pL : List Nat → (Nat → Int) → Int
  | [], _ => 1
  | c :: cs, F => F c * pL cs F
theorem pL_congr {F G : Nat → Int} : ∀ {cs : List Nat}, (∀ c, c ∈ cs → F c = G c) → pL cs F = pL cs G
  | [], _ => rfl
  | c :: cs, h => by rw [pL, pL, h c (List.mem_cons_self ..), pL_congr fun d hd => h d (List.mem_cons_of_mem _ hd)]
theorem pL_mul (F G : Nat → Int) : ∀ cs : List Nat, pL cs (fun c => F c * G c) = pL cs F * pL cs G
  | [] => rfl
  | c :: cs => by rw [pL, pL, pL, pL_mul F G cs]; grind
def hitG (x y : Nat) : Int := if x = y then 1 else 0
/-- A sum is told apart by what stands in one column. -/
theorem sR_level {N s : Nat} (r : Nat → Nat) (hr : ∀ i, i < N → r i < s) (g : Nat → Int) (F : Nat → Int) : sR N (fun i => g (r i) * F i) = sR s fun x => g x * sR N fun i => hitG (r i) x * F i := by
  have e : (sR s fun x => g x * sR N fun i => hitG (r i) x * F i) = sR s fun x => sR N fun i => g x * (hitG (r i) x * F i) := sR_congr fun x _ => (sR_mul _ _ _).symm
  rw [e, sR_swap]
  exact sR_congr fun i hi => by
    have e2 : (sR s fun x => g x * (hitG (r i) x * F i)) = sR s fun x => idR (r i) x * (g x * F i) := sR_congr fun x _ => by
      have : hitG (r i) x = idR (r i) x := rfl
      rw [this]
      grind
    rw [e2, sR_id (fun x => g x * F i) (r i) s, if_pos (hr i hi)]
/-- Where each choice of levels stands as often, a sum of products is a product of sums. -/
theorem str_prod {N s : Nat} {r : Nat → Nat → Nat} (g : Nat → Nat → Int) : ∀ (cs : List Nat) (J : Nat → Int) (q : Int), cs.Nodup → (∀ i c, i < N → c ∈ cs → r i c < s) →
    (∀ vs : Nat → Nat, (∀ c, c ∈ cs → vs c < s) → sR N (fun i => J i * pL cs fun c => hitG (r i c) (vs c)) = q) →
    sR N (fun i => J i * pL cs fun c => g c (r i c)) = q * pL cs fun c => sR s (g c)
  | [], J, q, _, _, h => by
    have := h (fun _ => 0) (fun c hc => absurd hc (by simp))
    simp only [pL] at this ⊢
    rw [this]
    omega
  | c :: cs, J, q, hd, hr, h => by
    obtain ⟨hc, hcs⟩ := List.nodup_cons.1 hd
    have e1 : sR N (fun i => J i * pL (c :: cs) fun d => g d (r i d)) = sR N (fun i => g c (r i c) * (J i * pL cs fun d => g d (r i d))) := sR_congr fun i _ => by
      rw [pL]
      grind
    rw [e1, sR_level (fun i => r i c) (fun i hi => hr i c hi (List.mem_cons_self ..)) (g c)]
    have e2 : (sR s fun x => g c x * sR N fun i => hitG (r i c) x * (J i * pL cs fun d => g d (r i d))) = sR s fun x => g c x * (q * pL cs fun d => sR s (g d)) := sR_congr fun x hx => by
      have k := str_prod (r := r) g cs (fun i => hitG (r i c) x * J i) q hcs (fun i d hi hm => hr i d hi (List.mem_cons_of_mem _ hm)) fun vs hv => by
        rw [← h (fun d => if d = c then x else vs d) fun d hm => by
          by_cases e : d = c
          · rw [if_pos e]; exact hx
          · rw [if_neg e]
            rcases List.mem_cons.1 hm with q | q
            · exact absurd q e
            · exact hv d q]
        exact sR_congr fun i _ => by
          rw [pL, if_pos rfl]
          have e3 : pL cs (fun d => hitG (r i d) (if d = c then x else vs d)) = pL cs fun d => hitG (r i d) (vs d) := pL_congr fun d hm => by
            have hdc : d ≠ c := fun e => by
              subst e
              exact hc hm
            rw [if_neg hdc]
          rw [e3]
          grind
      have e4 : (sR N fun i => hitG (r i c) x * (J i * pL cs fun d => g d (r i d))) = sR N fun i => hitG (r i c) x * J i * pL cs fun d => g d (r i d) := sR_congr fun i _ => by grind
      rw [e4, k]
    rw [e2, sR_mulr, pL]
    grind
end Go.Proofs.Ytjfjdidibglhaab
