/- The walks of names and of what it asks. -/
import Derived.Test.YtncnaaohihmjnaaQAl
import Derived.Test.YtncnaaohihmjnaaQ4
import Derived.Test.YtncnaaohihmjnaaP25
import Derived.Laws.EntriesVeiled
namespace Go.Proofs.Ytncnaaohihmjnaa
open Go.RowKit

theorem e62 : ∀ args w, (callFunc 62 args).run Try.prog w = .ok (.enter 62 args) w := enters_of Try.func62 (by kernel_rfl) rfl
set_option maxHeartbeats 8000000 in
theorem names1_any (n i j k x y : Nat) (s t : Nat → Nat → Nat) (p : Nat → Nat) (u v q : Value) (w W : World) (hs : ∀ a b, a < n → b < n → s a b < n) (hp : ∀ a, a < n → p a < n) (hS : Teller u n n s w) (hT : Teller v n n t w) (hP : Sl w q (pl n p)) (hB : Below w.heap.size w W) (hi : Bx W i v) (hj : Bx W j q) (hk : Bx W k u) (hx : x < n) (hy : y < n) :
    Calls Try.prog 62 #[.int .i64 (x : Int), .int .i64 (y : Int), .pointer (some ⟨i, 0, none⟩), .pointer (some ⟨j, 0, none⟩), .pointer (some ⟨k, 0, none⟩)] W fun e w' => e = .returned (.bool (t (p x) (p y) == p (s x y))) ∧ Below W.heap.size W w' := by
  obtain ⟨g, lb, rfl, eg, hT⟩ := hT
  obtain ⟨h, lc, rfl, eh, hS⟩ := hS
  obtain ⟨a, off, cap, rfl, ha, hcell⟩ := (hP.below hB).form (pl_len n p) (by omega)
  have C1 : ∀ W', Below W.heap.size W W' → Calls Try.prog g (#[.int .i64 (p x : Int), .int .i64 (p y : Int)] ++ lb) W' fun e w' => e = .returned (.int .i64 (t (p x) (p y) : Int)) ∧ Below W'.heap.size W' w' := fun W' b' => hT W' (Below.next hB b') (p x) (p y) (hp x hx) (hp y hy)
  have C2 : ∀ W', Below W.heap.size W W' → Calls Try.prog h (#[.int .i64 (x : Int), .int .i64 (y : Int)] ++ lc) W' fun e w' => e = .returned (.int .i64 (s x y : Int)) ∧ Below W'.heap.size W' w' := fun W' b' => hS W' (Below.next hB b') x y hx hy
  have hz := hs x y hx hy
  have K : ∀ m w', m < n → Below W.heap.size W w' → w'.cell? ⟨a, off + m, none⟩ = some (.int .i64 (p m : Int)) := fun m w' hm b' => by
    have := (b'.cell (p := ⟨a, off + m, none⟩) ha).trans (hcell m hm)
    rw [pl_at p hm] at this
    exact this
  rw [← nat_beq]
  generalize s x y = z at *
  have HS : Hid (∀ w', Below W.heap.size W w' → w'.cell? ⟨i, 0, none⟩ = some (.func (.func g) #[] lb) ∧ w'.cell? ⟨j, 0, none⟩ = some (.slice (some ⟨a, off, none⟩) n cap) ∧ w'.cell? ⟨k, 0, none⟩ = some (.func (.func h) #[] lc) ∧ w'.cell? ⟨a, off + x, none⟩ = some (.int .i64 (p x : Int)) ∧ w'.cell? ⟨a, off + y, none⟩ = some (.int .i64 (p y : Int)) ∧ w'.cell? ⟨a, off + z, none⟩ = some (.int .i64 (p z : Int))) := fun w' b' => ⟨(hi.below b').2, (hj.below b').2, (hk.below b').2, K x w' hx b', K y w' hy b', K z w' hz b'⟩
  obtain ⟨X, hX⟩ : ∃ X : Int, X = ((t (p x) (p y) : Nat) : Int) := ⟨_, rfl⟩
  rw [← hX] at C1 ⊢
  obtain ⟨A, hA⟩ : ∃ X : Int, X = ((p x : Nat) : Int) := ⟨_, rfl⟩
  obtain ⟨B, hBB⟩ : ∃ X : Int, X = ((p y : Nat) : Int) := ⟨_, rfl⟩
  obtain ⟨D, hD⟩ : ∃ X : Int, X = ((p z : Nat) : Int) := ⟨_, rfl⟩
  rw [← hA, ← hBB] at C1 HS
  rw [← hD] at HS ⊢
  obtain ⟨r, hr⟩ : ∃ r, (X == D) = r := ⟨_, rfl⟩
  rw [hr]
  have hxi : (x : Int) < (n : Int) := by omega
  have hyi : (y : Int) < (n : Int) := by omega
  have hzi : (z : Int) < (n : Int) := by omega
  clear hT hS hi hj hk hX hA hBB hD K hcell hs hp hP
  go_enter Try.func62, Try.ntmps62
  go_wp2_with fail
  refine wp_region_noPanic ?_
  refine wp_region_held_drew (S := fun w' => w'.cell? ⟨i, 0, none⟩ = some (.func (.func g) #[] lb) ∧ w'.cell? ⟨j, 0, none⟩ = some (.slice (some ⟨a, off, none⟩) n cap) ∧ w'.cell? ⟨k, 0, none⟩ = some (.func (.func h) #[] lc) ∧ w'.cell? ⟨a, off + x, none⟩ = some (.int .i64 A) ∧ w'.cell? ⟨a, off + y, none⟩ = some (.int .i64 B) ∧ w'.cell? ⟨a, off + z, none⟩ = some (.int .i64 D)) (by kernel_rfl) (HS.out _ (Below.refl _ W).drew) (fun hSx => ?_)
  have d0 : Below W.heap.size W W.drew := (Below.refl _ W).drew
  refine wpAnyH_take (i := 0) (v := .func (.func g) #[] lb) rfl (by kernel_rfl) (by kernel_rfl) (by kernel_rfl) (fun _ _ _ h => h) (Or.inl ⟨by rfl, fun w' hSw => by (try dsimp only at hSw); obtain ⟨hs0, hs1, hs2, hs3, hs4, hs5⟩ := hSw; go_simp⟩) hSx ?_
  try simp only [Act.put, List.setIfInBounds_toArray]
  refine wpAnyH_take (i := 1) (v := .slice (some ⟨a, off, none⟩) n cap) rfl (by kernel_rfl) (by kernel_rfl) (by kernel_rfl) (fun _ _ _ h => h) (Or.inl ⟨by rfl, fun w' hSw => by (try dsimp only at hSw); obtain ⟨hs0, hs1, hs2, hs3, hs4, hs5⟩ := hSw; go_simp⟩) hSx ?_
  try simp only [Act.put]
  refine wpAnyH_take (i := 2) (v := .int .i64 (x : Int)) rfl (by kernel_rfl) (by kernel_rfl) (by kernel_rfl) (fun _ _ _ h => h) (Or.inl ⟨by rfl, fun w' hSw => by (try dsimp only at hSw); obtain ⟨hs0, hs1, hs2, hs3, hs4, hs5⟩ := hSw; go_simp⟩) hSx ?_
  try simp only [Act.put]
  refine wpAnyH_take (i := 3) (v := .pointer (some ⟨a, off + x, none⟩)) rfl (by kernel_rfl) (by kernel_rfl) (by kernel_rfl) (fun _ _ _ h => h) (Or.inl ⟨by rfl, fun w' hSw => by (try dsimp only at hSw); obtain ⟨hs0, hs1, hs2, hs3, hs4, hs5⟩ := hSw; go_simp⟩) hSx ?_
  try simp only [Act.put]
  refine wpAnyH_take (i := 4) (v := .int .i64 A) rfl (by kernel_rfl) (by kernel_rfl) (by kernel_rfl) (fun _ _ _ h => h) (Or.inl ⟨by rfl, fun w' hSw => by (try dsimp only at hSw); obtain ⟨hs0, hs1, hs2, hs3, hs4, hs5⟩ := hSw; go_simp⟩) hSx ?_
  try simp only [Act.put]
  refine wpAnyH_take (i := 5) (v := .slice (some ⟨a, off, none⟩) n cap) rfl (by kernel_rfl) (by kernel_rfl) (by kernel_rfl) (fun _ _ _ h => h) (Or.inl ⟨by rfl, fun w' hSw => by (try dsimp only at hSw); obtain ⟨hs0, hs1, hs2, hs3, hs4, hs5⟩ := hSw; go_simp⟩) hSx ?_
  try simp only [Act.put]
  refine wpAnyH_take (i := 6) (v := .int .i64 (y : Int)) rfl (by kernel_rfl) (by kernel_rfl) (by kernel_rfl) (fun _ _ _ h => h) (Or.inl ⟨by rfl, fun w' hSw => by (try dsimp only at hSw); obtain ⟨hs0, hs1, hs2, hs3, hs4, hs5⟩ := hSw; go_simp⟩) hSx ?_
  try simp only [Act.put]
  refine wpAnyH_take (i := 7) (v := .pointer (some ⟨a, off + y, none⟩)) rfl (by kernel_rfl) (by kernel_rfl) (by kernel_rfl) (fun _ _ _ h => h) (Or.inl ⟨by rfl, fun w' hSw => by (try dsimp only at hSw); obtain ⟨hs0, hs1, hs2, hs3, hs4, hs5⟩ := hSw; go_simp⟩) hSx ?_
  try simp only [Act.put]
  refine wpAnyH_take (i := 8) (v := .int .i64 B) rfl (by kernel_rfl) (by kernel_rfl) (by kernel_rfl) (fun _ _ _ h => h) (Or.inl ⟨by rfl, fun w' hSw => by (try dsimp only at hSw); obtain ⟨hs0, hs1, hs2, hs3, hs4, hs5⟩ := hSw; go_simp⟩) hSx ?_
  try simp only [Act.put]
  refine wpAnyH_take (i := 10) (v := .slice (some ⟨a, off, none⟩) n cap) rfl (by kernel_rfl) (by kernel_rfl) (by kernel_rfl) (fun _ _ _ h => h) (Or.inl ⟨by rfl, fun w' hSw => by (try dsimp only at hSw); obtain ⟨hs0, hs1, hs2, hs3, hs4, hs5⟩ := hSw; go_simp⟩) hSx ?_
  try simp only [Act.put]
  refine wpAnyH_take (i := 11) (v := .func (.func h) #[] lc) rfl (by kernel_rfl) (by kernel_rfl) (by kernel_rfl) (fun _ _ _ h => h) (Or.inl ⟨by rfl, fun w' hSw => by (try dsimp only at hSw); obtain ⟨hs0, hs1, hs2, hs3, hs4, hs5⟩ := hSw; go_simp⟩) hSx ?_
  try simp only [Act.put]
  refine wpAnyH_take (i := 12) (v := .int .i64 (x : Int)) rfl (by kernel_rfl) (by kernel_rfl) (by kernel_rfl) (fun _ _ _ h => h) (Or.inl ⟨by rfl, fun w' hSw => by (try dsimp only at hSw); obtain ⟨hs0, hs1, hs2, hs3, hs4, hs5⟩ := hSw; go_simp⟩) hSx ?_
  try simp only [Act.put]
  refine wpAnyH_take (i := 13) (v := .int .i64 (y : Int)) rfl (by kernel_rfl) (by kernel_rfl) (by kernel_rfl) (fun _ _ _ h => h) (Or.inl ⟨by rfl, fun w' hSw => by (try dsimp only at hSw); obtain ⟨hs0, hs1, hs2, hs3, hs4, hs5⟩ := hSw; go_simp⟩) hSx ?_
  try simp only [Act.put]
  refine wpAnyH_ready (rs := [9]) (by kernel_rfl) (by simp) ?_
  refine AllReadyH.cons rfl (fun J hJ => ?_) AllReadyH.nil
  go_simp
  go_at_fn g
  refine (C1 _ d0).mono ?_
  rintro e w1 ⟨rfl, b1⟩
  have d1 := Below.next d0 b1
  go_wp2_with fail
  refine hJ.out _ _ (HS.out _ d1) (fun hSx => ?_)
  clear hJ J
  try simp only [Act.put, List.setIfInBounds_toArray, List.set_cons_zero, List.set_cons_succ]
  refine wpAnyH_ready (rs := [14]) (by kernel_rfl) (by simp) ?_
  refine AllReadyH.cons rfl (fun J hJ => ?_) AllReadyH.nil
  go_simp
  go_at_fn h
  refine (C2 _ d1).mono ?_
  rintro e w2 ⟨rfl, b2⟩
  have d2 := Below.next d1 b2
  go_wp2_with fail
  refine hJ.out _ _ (HS.out _ d2) (fun hSx => ?_)
  clear hJ J
  try simp only [Act.put, List.setIfInBounds_toArray, List.set_cons_zero, List.set_cons_succ]
  refine wpAnyH_take (i := 15) (v := .pointer (some ⟨a, off + z, none⟩)) rfl (by kernel_rfl) (by kernel_rfl) (by kernel_rfl) (fun _ _ _ h => h) (Or.inl ⟨by rfl, fun w' hSw => by (try dsimp only at hSw); obtain ⟨hs0, hs1, hs2, hs3, hs4, hs5⟩ := hSw; go_simp⟩) hSx ?_
  try simp only [Act.put, List.setIfInBounds_toArray]
  refine wpAnyH_take (i := 16) (v := .int .i64 D) rfl (by kernel_rfl) (by kernel_rfl) (by kernel_rfl) (fun _ _ _ h => h) (Or.inl ⟨by rfl, fun w' hSw => by (try dsimp only at hSw); obtain ⟨hs0, hs1, hs2, hs3, hs4, hs5⟩ := hSw; go_simp⟩) hSx ?_
  try simp only [Act.put]
  refine wpAnyH_take (i := 17) (v := .bool r) rfl (by kernel_rfl) (by kernel_rfl) (by kernel_rfl) (fun _ _ _ h => h) (Or.inl ⟨by rfl, fun w' hSw => by (try dsimp only at hSw); obtain ⟨hs0, hs1, hs2, hs3, hs4, hs5⟩ := hSw; go_simp⟩) hSx ?_
  try simp only [Act.put]
  refine wpAnyH_take (i := 18) (v := .bool r) rfl (by kernel_rfl) (by kernel_rfl) (by kernel_rfl) (fun _ _ _ h => h) (Or.inl ⟨by rfl, fun w' hSw => by (try dsimp only at hSw); obtain ⟨hs0, hs1, hs2, hs3, hs4, hs5⟩ := hSw; go_simp⟩) hSx ?_
  try simp only [Act.put]
  refine wpAnyH_done (by kernel_rfl) ?_ _
  refine NoPanic.normal ?_
  go_simp
  go_wp2
  go_ret
  exact ⟨rfl, d2⟩
end Go.Proofs.Ytncnaaohihmjnaa
