/- The walk of Colourings. -/
import Derived.Test.YtmaplmgecohjbaaC13
import Derived.Test.YtmaplmgecohjbaaC5
import Derived.Test.YtmaplmgecohjbaaCSum
namespace Go.Proofs.Ytmaplmgecohjbaa
open Go.RowKit Go.Maps

theorem int_perm_sum {L M : List (List Nat)} (h : L.Perm M) (F : List Nat → Int) : (L.map F).sum = (M.map F).sum := by
  induction h with
  | nil => rfl
  | cons x _ ih => rw [List.map_cons, List.sum_cons, List.map_cons, List.sum_cons, ih]
  | swap x y l => simp only [List.map_cons, List.sum_cons]; omega
  | trans _ _ ih1 ih2 => exact ih1.trans ih2
theorem cycT_pow {n k : Nat} {ms L : List (List Nat)} (hL : ∀ y ∈ L, y.sum ≤ 7) (hp : L.Perm ((els n (Gen n ms)).map (kd n))) : sumN (fun c => cycT L c * ((k ^ c : Nat) : Int)) 8 = (powS n k ms : Int) := by
  have h := ind_swap (fun c => ((k ^ c : Nat) : Int)) 8 L fun y hy => by have := hL y hy; omega
  unfold cycT
  rw [h, int_perm_sum hp, List.map_map]
  unfold powS
  rw [natcast_sum, List.map_map]
  rfl
theorem cycT_all {n : Nat} {ms L : List (List Nat)} (hL : ∀ y ∈ L, y.sum ≤ 7) (hp : L.Perm ((els n (Gen n ms)).map (kd n))) : sumN (cycT L) 8 = ((els n (Gen n ms)).length : Int) := by
  have h := ind_swap (fun _ => 1) 8 L fun y hy => by have := hL y hy; omega
  have e : sumN (cycT L) 8 = sumN (fun c => (L.map fun y => if y.sum = c then (1 : Int) else 0).sum * 1) 8 := sumN_congr fun c _ => (Int.mul_one _).symm
  rw [e, h, int_perm_sum hp, List.map_map]
  generalize els n (Gen n ms) = E
  induction E with
  | nil => rfl
  | cons a E ih => rw [List.map_cons, List.sum_cons, ih, List.length_cons, Int.natCast_succ]; simp only [Function.comp]; omega
theorem kinds_sm {n : Nat} {ms L : List (List Nat)} (hn : n ≤ 7) (hp : L.Perm ((els n (Gen n ms)).map (kd n))) : ∀ y ∈ L, SmK y ∧ y.sum ≤ 7 := fun y hy => by
  obtain ⟨a, ha, rfl⟩ := List.mem_map.1 (hp.mem_iff.1 hy)
  exact ⟨kd_sm a hn, kd_le (mem_els.1 ha).1 hn⟩
theorem cycT_nonneg (L : List (List Nat)) (c : Nat) : 0 ≤ cycT L c := by
  unfold cycT
  induction L with
  | nil => simp
  | cons a l ih => rw [List.map_cons, List.sum_cons]; split <;> omega

set_option maxRecDepth 100000 in
set_option maxHeartbeats 1000000 in
theorem Colourings_ok (n k : Nat) (ms : List (List Nat)) (v : Value) (w : World) (h : Mk n ms v w) (hk : 1 ≤ k) (hk2 : k ≤ 200) :
    Calls Try.prog 20 #[.int .i64 (n : Int), v, .int .i64 (k : Int)] w fun e w' => e = .returned (.tuple #[.int .i64 (colG n k ms : Int), .int .i64 0]) ∧ Below w.heap.size w w' := by
  have hn7 := h.n7
  have hbd := gen_bound h.isP hn7 (els_nodup n (Gen n ms)) (fun a => (gen_grp h.isP).mem)
  have C0 := h.check
  have C1 := fun W (b : Below w.heap.size w W) => kindsOf_any n ms v W (h.below b)
  have hps := powS_le (ms := ms) hn7 hk hk2 hbd.2
  have hdiv : (powS n k ms : Int).tdiv ((els n (Gen n ms)).length : Int) = (colG n k ms : Int) := by
    rw [powS_col hn7 (by omega) h.isP, Int.natCast_mul, Int.mul_tdiv_cancel _ (by omega)]
  have C3 := fun (L : List (List Nat)) (hp : L.Perm ((els n (Gen n ms)).map (kd n))) (B m : Nat) (D : DataW Unit) (W : World) (ho : W.ownsMap Try.prog 3 (plainElem Try.prog 3) B m D) (ht : TallyIs D (cycT L) 8) =>
    unlike_any B m k 8 D (cycT L) W ho ht (cycT_nonneg L) hk (by omega) (by omega) (by rw [cycT_pow (fun y hy => (kinds_sm hn7 hp y hy).2) hp]; omega) (by rw [cycT_all (fun y hy => (kinds_sm hn7 hp y hy).2) hp]; omega)
  have hkd1 : decide ((k : Int) < 1) = false := by simp; omega
  have hkd2 : decide ((200 : Int) < k) = false := by simp; omega
  go_enter Try.func20, Try.ntmps20
  go_wp2_with (first
    | (go_at_call 34; refine C0.mono ?_; rintro e w1 ⟨rfl, b1⟩)
    | (go_at_call 35; refine (C1 _ b1).mono ?_; rintro e w2 ⟨B, m, D, L, rfl, hwB, hm, hown, hD, hp, b2⟩; have C2 := cycles_map B m D L w2 hown hD (kinds_sm hn7 hp) (by omega) (by rw [hp.length_eq, List.length_map]; omega); have b2' := Below.next b1 b2)
    | (go_at_call 45; refine C2.mono ?_; rintro e w3 ⟨B3, D3, rfl, hwB3, hown3, hT3, b3⟩; have b3' := Below.next b2' b3; have C4 := C3 L hp B3 m D3 w3 hown3 hT3; rw [cycT_pow (fun y hy => (kinds_sm hn7 hp y hy).2) hp, cycT_all (fun y hy => (kinds_sm hn7 hp y hy).2) hp, hdiv] at C4)
    | (go_at_call 46; refine C4.mono ?_; rintro e w4 ⟨rfl, b4⟩))
  go_ret2
  exact ⟨rfl, Below.next b3' b4⟩

set_option maxHeartbeats 400000 in
theorem Colourings_far (n : Nat) (k : Int) (ms : List (List Nat)) (v : Value) (w : World) (h : Mk n ms v w) (hk : k < 1 ∨ 200 < k) :
    Calls Try.prog 20 #[.int .i64 (n : Int), v, .int .i64 k] w fun e w' => e = .returned (.tuple #[.int .i64 0, .int .i64 1]) ∧ Below w.heap.size w w' := by
  have C0 := h.check
  by_cases hk1 : k < 1
  · go_enter Try.func20, Try.ntmps20
    go_wp2_with (go_at_call 34; refine C0.mono ?_; rintro e w1 ⟨rfl, b1⟩)
    go_ret2
    exact ⟨rfl, b1⟩
  · have hkd1 : decide (k < 1) = false := by simpa using hk1
    have hk2 : 200 < k := by omega
    go_enter Try.func20, Try.ntmps20
    go_wp2_with (go_at_call 34; refine C0.mono ?_; rintro e w1 ⟨rfl, b1⟩)
    go_ret2
    exact ⟨rfl, b1⟩

set_option maxHeartbeats 400000 in
theorem Colourings_bad (n k z : Int) (v : Value) (w : World) (C0 : Calls Try.prog 34 #[.int .i64 n, v] w fun e w' => e = .returned (.int .i64 z) ∧ Below w.heap.size w w') (hz : z ≠ 0) :
    Calls Try.prog 20 #[.int .i64 n, v, .int .i64 k] w fun e w' => e = .returned (.tuple #[.int .i64 0, .int .i64 z]) ∧ Below w.heap.size w w' := by
  have hzb : (z == 0) = false := by simpa using hz
  go_enter Try.func20, Try.ntmps20
  go_wp2_with (go_at_call 34; refine C0.mono ?_; rintro e w1 ⟨rfl, b1⟩)
  go_ret2
  exact ⟨rfl, b1⟩

end Go.Proofs.Ytmaplmgecohjbaa
