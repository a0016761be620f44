/- The walk of Welch. -/
import Derived.Test.YtmiinhbffiodmaaDoorD2
namespace Go.Proofs.YtmiinhbffiodmaaDoor
open Go.RowKit Go.Maps

theorem good1 (P n : Nat) : Fd.goodAt P 1 n := by
  intro e h1 h2
  omega
theorem least_prime {p q d : Int} {l : List Int} {z : Int} (h : Fd.LeastIs p 1 q d l z) (hp : Fd.isPrimeB p = true) (h64 : p ≤ 64) : z = 0 := by
  have h2 := (Fd.prime_bd hp).1
  have hpw : p ^ (1 : Int).toNat = p := by
    show p ^ 1 = p
    rw [Int.pow_succ, Int.pow_zero, Int.one_mul]
  have h0 : Fd.ordZ p 1 ≠ 0 := by
    unfold Fd.ordZ
    rw [if_pos ⟨hp, by omega, by omega, by rw [hpw]; exact h64⟩, hpw]
    omega
  rcases h with ⟨a, _⟩ | ⟨P, K, e1, e2, _, ⟨n, _, _, _, _, _, _, ez⟩ | ⟨hno, _⟩⟩
  · exact absurd a h0
  · exact ez
  · obtain rfl : K = 1 := by omega
    have : P ≠ 0 := by omega
    exact absurd (good1 P 0) (hno 0 (by rw [Nat.pow_one]; omega))
theorem least_none {p q d : Int} {l : List Int} {z : Int} (h : Fd.LeastIs p 1 q d l z) (hp : Fd.isPrimeB p = false) : z = 1 := by
  have h0 : Fd.ordZ p 1 = 0 := by
    unfold Fd.ordZ
    rw [if_neg (fun h => by rw [hp] at h; cases h.1)]
  rcases h with ⟨_, _, _, _, ez⟩ | ⟨P, K, e1, e2, hne, _⟩
  · exact ez
  · subst e1
    exact absurd h0 hne
theorem wP_B : ∀ p : Fin 14, 3 ≤ p.val → Fd.isPrimeB (p.val : Int) = wP p.val := by decide +kernel
theorem least_w (p : Nat) (w : World) (h3 : 3 ≤ p) (h13 : p ≤ 13) (hT : Fd.Tab w) :
    Calls Tryd.prog 23 #[.int .i64 (p : Int), .int .i64 1] w fun e w' => ∃ (q d : Int) (a : Option Addr) (n c : Nat), e = .returned (.tuple #[.agg #[.int .i64 q, .int .i64 d, .slice a n c], .int .i64 (if wP p = true then 0 else 1)]) ∧ Below w.heap.size w w' := by
  refine (Fd.least_any p 1 w hT).mono ?_
  rintro e w' ⟨q, d, v, l, z, rfl, ⟨a, c, rfl, _⟩, hL, hb⟩
  have hw := wP_B ⟨p, by omega⟩ h3
  simp only at hw
  refine ⟨q, d, a, l.length, c, ?_, hb⟩
  by_cases hp : wP p = true
  · rw [if_pos hp, least_prime hL (hw.trans hp) (by omega)]
  · rw [if_neg hp, least_none hL (by rw [hw]; simpa using hp)]
set_option maxHeartbeats 4000000 in
theorem Welch_far (p r : Int) (w : World) (h : p < 3 ∨ 13 < p) : Calls Tryd.prog 10 #[.int .i64 p, .int .i64 r] w fun e w' => e = .returned (.tuple #[.slice none 0 0, .int .i64 1]) ∧ Below w.heap.size w w' := by
  by_cases h1 : p < 3
  · have d1 : decide (p < 3) = true := by simpa using h1
    clear h
    go_enter Tryd.func10, Tryd.ntmps10
    go_wp2
    exact bodyPost_ret (v := .tuple #[.slice none 0 0, .int .i64 1]) (by simp [results, Tryd.results10, go_sem]) rfl ⟨rfl, Below.refl _ _⟩
  · have h7 : 13 < p := by omega
    have d1 : decide (p < 3) = false := by simpa using h1
    have d2 : decide (13 < p) = true := by simpa using h7
    clear h
    go_enter Tryd.func10, Tryd.ntmps10
    go_wp2
    exact bodyPost_ret (v := .tuple #[.slice none 0 0, .int .i64 1]) (by simp [results, Tryd.results10, go_sem]) rfl ⟨rfl, Below.refl _ _⟩
theorem pF_nodup {n : Nat} {f : Nat → Nat} (hn : n ≤ 12) (hf : ∀ i, i < n → f i < n) : pF (pl n f) = 0 ↔ ((List.range n).map f).Nodup := by
  constructor
  · intro h
    obtain ⟨n', f', _, P, e⟩ := pF_ok h
    have en : n = n' := by have := congrArg List.length e; rwa [pl_len, pl_len] at this
    subst en
    have ef : ∀ i, i < n → f i = f' i := fun i hi => by
      have := congrArg (fun l => l.getD i 0) e
      simp only [pl_at f hi, pl_at f' hi] at this
      omega
    rw [List.nodup_iff_pairwise_ne, List.pairwise_map]
    refine List.Pairwise.imp_of_mem (R := fun a b => a ≠ b) (fun {a b} ha hb hne e => ?_) List.nodup_range
    have ha := List.mem_range.1 ha
    have hb := List.mem_range.1 hb
    exact hne (P.inj a b ha hb (by rw [← ef a ha, ← ef b hb]; exact e))
  · intro h
    refine pF_pl ⟨hf, fun i j hi hj e => ?_⟩ hn
    rw [List.nodup_iff_pairwise_ne, List.pairwise_map] at h
    have h' := List.pairwise_iff_getElem.1 h
    rcases Nat.lt_trichotomy i j with hl | hl | hl
    · exact absurd e (by have := h' i j (by simpa using hi) (by simpa using hj) hl; rwa [List.getElem_range, List.getElem_range] at this)
    · exact hl
    · exact absurd e.symm (by have := h' j i (by simpa using hj) (by simpa using hi) hl; rwa [List.getElem_range, List.getElem_range] at this)
theorem wel_pm {p r : Nat} (hp : wP p = true) (h3 : 3 ≤ p) (h13 : p ≤ 13) (hr1 : 1 ≤ r) (hr : r < p) {i : Nat} (hi : i < p - 1) : 1 ≤ r ^ i % p ∧ r ^ i % p < p := ⟨welch_pos ⟨p, by omega⟩ ⟨r, by omega⟩ ⟨i, by omega⟩ hp hr1 hr, Nat.mod_lt _ (by omega)⟩
theorem wel_lt {p r : Nat} (hp : wP p = true) (h3 : 3 ≤ p) (h13 : p ≤ 13) (hr1 : 1 ≤ r) (hr : r < p) {i : Nat} (hi : i < p - 1) : wlF p r i < p - 1 := by
  have := wel_pm hp h3 h13 hr1 hr hi
  unfold wlF
  omega
theorem inf43 (q d : Int) (v : Value) : (Tryd.prog.info? 43).map (·.size) = some (#[.int .i64 q, .int .i64 d, v] : Array Value).size := Fd.inf24
set_option maxRecDepth 100000 in
set_option maxHeartbeats 8000000 in
theorem Welch_none (p : Nat) (r : Int) (w : World) (hT : Fd.Tab w) (h3 : 3 ≤ p) (h13 : p ≤ 13) (h : wP p = false ∨ r < 1 ∨ (p : Int) ≤ r) : Calls Tryd.prog 10 #[.int .i64 (p : Int), .int .i64 r] w fun e w' => e = .returned (.tuple #[.slice none 0 0, .int .i64 1]) ∧ Below w.heap.size w w' := by
  have C := least_w p w h3 h13 hT
  have d1 : decide ((p : Int) < 3) = false := by simp; omega
  have d1' : ¬ (p : Int) < 3 := by omega
  have d2 : decide (13 < (p : Int)) = false := by simp; omega
  have d2' : ¬ 13 < (p : Int) := by omega
  have d3 : decide (13 < p) = false := by simp; omega
  have d4 : decide (p < 3) = false := by simp; omega
  by_cases hp : wP p = true
  · rw [if_pos hp] at C
    have hr : r < 1 ∨ (p : Int) ≤ r := by
      rcases h with h | h
      · rw [h] at hp; cases hp
      · exact h
    clear h hp hT
    by_cases hr1 : r < 1
    · have e1 : decide (r < 1) = true := by simpa using hr1
      clear hr
      go_enter Tryd.func10, Tryd.ntmps10
      go_wp2_with (first
        | (go_at_call 23; refine C.mono ?_; rintro e w1 ⟨q, d, a, n, c, rfl, b1⟩; clear C; have hz := heap_alloc_new w1 (.cells #[.int .i64 0, .int .i64 0, .slice none 0 0] 43); have b2 : Below w.heap.size w ((w1.alloc (.cells #[.int .i64 0, .int .i64 0, .slice none 0 0] 43)).setRow w1.heap.size #[.int .i64 q, .int .i64 d, .slice a n c]) := bsetRw (b1.alloc b1.size _) b1.size _)
        | (refine wpList_store_row rfl 43 _ _ rfl w1.heap.size #[.int .i64 q, .int .i64 d, .slice a n c] rfl rfl 43 _ hz (inf43 _ _ _) rfl (Fd.one3 _ _ _ rfl) ?_))
      exact bodyPost_ret (v := .tuple #[.slice none 0 0, .int .i64 1]) (by simp [results, Tryd.results10, go_sem]) rfl ⟨rfl, b2⟩
    · have hr2 : (p : Int) ≤ r := by omega
      have e1 : decide (r < 1) = false := by simpa using hr1
      have e2 : decide ((p : Int) ≤ r) = true := by simpa using hr2
      clear hr
      go_enter Tryd.func10, Tryd.ntmps10
      go_wp2_with (first
        | (go_at_call 23; refine C.mono ?_; rintro e w1 ⟨q, d, a, n, c, rfl, b1⟩; clear C; have hz := heap_alloc_new w1 (.cells #[.int .i64 0, .int .i64 0, .slice none 0 0] 43); have b2 : Below w.heap.size w ((w1.alloc (.cells #[.int .i64 0, .int .i64 0, .slice none 0 0] 43)).setRow w1.heap.size #[.int .i64 q, .int .i64 d, .slice a n c]) := bsetRw (b1.alloc b1.size _) b1.size _)
        | (refine wpList_store_row rfl 43 _ _ rfl w1.heap.size #[.int .i64 q, .int .i64 d, .slice a n c] rfl rfl 43 _ hz (inf43 _ _ _) rfl (Fd.one3 _ _ _ rfl) ?_))
      exact bodyPost_ret (v := .tuple #[.slice none 0 0, .int .i64 1]) (by simp [results, Tryd.results10, go_sem]) rfl ⟨rfl, b2⟩
  · rw [if_neg hp] at C
    clear h hp hT
    go_enter Tryd.func10, Tryd.ntmps10
    go_wp2_with (first
      | (go_at_call 23; refine C.mono ?_; rintro e w1 ⟨q, d, a, n, c, rfl, b1⟩; clear C; have hz := heap_alloc_new w1 (.cells #[.int .i64 0, .int .i64 0, .slice none 0 0] 43); have b2 : Below w.heap.size w ((w1.alloc (.cells #[.int .i64 0, .int .i64 0, .slice none 0 0] 43)).setRow w1.heap.size #[.int .i64 q, .int .i64 d, .slice a n c]) := bsetRw (b1.alloc b1.size _) b1.size _)
      | (refine wpList_store_row rfl 43 _ _ rfl w1.heap.size #[.int .i64 q, .int .i64 d, .slice a n c] rfl rfl 43 _ hz (inf43 _ _ _) rfl (Fd.one3 _ _ _ rfl) ?_))
    exact bodyPost_ret (v := .tuple #[.slice none 0 0, .int .i64 1]) (by simp [results, Tryd.results10, go_sem]) rfl ⟨rfl, b2⟩
set_option maxRecDepth 100000 in
set_option maxHeartbeats 8000000 in
theorem Welch_main (p r : Nat) (w : World) (hT : Fd.Tab w) (h3 : 3 ≤ p) (h13 : p ≤ 13) (hp : wP p = true) (hr1 : 1 ≤ r) (hr : r < p) : Calls Tryd.prog 10 #[.int .i64 (p : Int), .int .i64 (r : Int)] w fun e w' =>
    ((¬ (weL p r (p - 1)).Nodup ∧ e = .returned (.tuple #[.slice none 0 0, .int .i64 4])) ∨ ((weL p r (p - 1)).Nodup ∧ ∃ x, e = .returned (.tuple #[x, .int .i64 0]) ∧ Sl w' x (pl (p - 1) (wlF p r)))) ∧ Below w.heap.size w w' := by
  have C := least_w p w h3 h13 hT
  rw [if_pos hp] at C
  have d1 : decide ((p : Int) < 3) = false := by simp; omega
  have d1' : ¬ (p : Int) < 3 := by omega
  have d2 : decide (13 < (p : Int)) = false := by simp; omega
  have d2' : ¬ 13 < (p : Int) := by omega
  have d3 : decide (13 < p) = false := by simp; omega
  have d4 : decide (p < 3) = false := by simp; omega
  have e1 : decide ((r : Int) < 1) = false := by simp; omega
  have e1' : ¬ (r : Int) < 1 := by omega
  have e1'' : ¬ r = 0 := by omega
  have e2 : decide ((p : Int) ≤ (r : Int)) = false := by simp; omega
  have e2' : ¬ (p : Int) ≤ (r : Int) := by omega
  have e2'' : decide (p ≤ r) = false := by simp; omega
  have e3'' : ¬ p ≤ r := by omega
  have HPF : Hid (pF (pl (p - 1) (wlF p r)) = 0 ↔ (weL p r (p - 1)).Nodup) := pF_nodup (by omega) fun i hi => wel_lt hp h3 h13 hr1 hr hi
  have HPW : Hid (∀ W : World, Calls Tryd.prog 25 #[.int .i64 (p : Int), .int .i64 (r : Int)] W fun e w' => ∃ x, e = .returned x ∧ Sl w' x (pl (p - 1) fun i => r ^ i % p) ∧ Below W.heap.size W w') := fun W => powers_any p r (p - 1) W (by omega) (by omega) h13 hr
  have HLO : Hid (∀ (W : World) (u : Value), Sl W u (pl (p - 1) fun i => r ^ i % p) → Calls Tryd.prog 24 #[u] W fun e w' => ∃ cap b, e = .returned (.slice (some ⟨b, 0, none⟩) (p - 1) cap) ∧ Sl w' (.slice (some ⟨b, 0, none⟩) (p - 1) cap) (pl (p - 1) (wlF p r)) ∧ Below W.heap.size W w') := fun W u hu => lessOne_any (p - 1) _ u W (by omega) hu fun i hi => by have := wel_pm hp h3 h13 hr1 hr hi; omega
  have HCH : Hid (∀ (W : World) (u : Value), Sl W u (pl (p - 1) (wlF p r)) → Calls Tryd.prog 20 #[u] W fun e w' => e = .returned (.int .i64 (pF (pl (p - 1) (wlF p r)))) ∧ Below W.heap.size W w') := fun W u hu => Check_any _ u W hu (by rw [pl_len]; unfold maxLen; omega)
  obtain ⟨z, Hz⟩ : ∃ z, Hid (pF (pl (p - 1) (wlF p r)) = z) := ⟨_, rfl⟩
  rw [Hz.out] at HPF HCH
  obtain ⟨L1, HL1⟩ : ∃ L1, Hid ((pl (p - 1) fun i => r ^ i % p) = L1) := ⟨_, rfl⟩
  rw [HL1.out] at HPW HLO
  obtain ⟨L2, HL2⟩ : ∃ L2, Hid (pl (p - 1) (wlF p r) = L2) := ⟨_, rfl⟩
  rw [HL2.out] at HLO HCH ⊢
  generalize p - 1 = n at *
  clear hp hT
  by_cases hz0 : z = 0
  · have hnd := HPF.out.1 hz0
    subst hz0
    go_enter Tryd.func10, Tryd.ntmps10
    go_wp2_with (first
      | (go_at_call 23; refine C.mono ?_; rintro e w1 ⟨q, d, a, nn, c, rfl, b1⟩; clear C; have hz := heap_alloc_new w1 (.cells #[.int .i64 0, .int .i64 0, .slice none 0 0] 43); have b2 : Below w.heap.size w ((w1.alloc (.cells #[.int .i64 0, .int .i64 0, .slice none 0 0] 43)).setRow w1.heap.size #[.int .i64 q, .int .i64 d, .slice a nn c]) := bsetRw (b1.alloc b1.size _) b1.size _)
      | (refine wpList_store_row rfl 43 _ _ rfl w1.heap.size #[.int .i64 q, .int .i64 d, .slice a nn c] rfl rfl 43 _ hz (inf43 _ _ _) rfl (Fd.one3 _ _ _ rfl) ?_)
      | (go_at_call 25; refine (HPW.out _).mono ?_; rintro e w3 ⟨x, rfl, hx, b3⟩; have HX : Hid (Sl w3 x L1) := hx; replace b3 := Below.next b2 b3; clear hx HPW b2 b1 hz)
      | (go_at_call 24; refine (HLO.out _ _ HX.out).mono ?_; rintro e w4 ⟨cap, b, rfl, hy, b4⟩; have HY : Hid (Sl w4 (.slice (some ⟨b, 0, none⟩) n cap) L2) := hy; replace b4 := Below.next b3 b4; clear hy HLO HX b3)
      | (go_at_call 20; refine (HCH.out _ _ HY.out).mono ?_; rintro e w5 ⟨rfl, b5⟩; have HY5 : Hid (Sl w5 (.slice (some ⟨b, 0, none⟩) n cap) L2) := HY.out.below b5; replace b5 := Below.next b4 b5; clear HCH HY b4))
    exact bodyPost_ret (v := .tuple #[.slice (some ⟨b, 0, none⟩) n cap, .int .i64 0]) (by simp [results, Tryd.results10, go_sem]) rfl ⟨.inr ⟨hnd, _, rfl, HY5.out⟩, b5⟩
  · have hnd : ¬ (weL p r n).Nodup := fun h => hz0 (HPF.out.2 h)
    have hz1 : (z != 0) = true := by simpa using hz0
    go_enter Tryd.func10, Tryd.ntmps10
    go_wp2_with (first
      | (go_at_call 23; refine C.mono ?_; rintro e w1 ⟨q, d, a, nn, c, rfl, b1⟩; clear C; have hz := heap_alloc_new w1 (.cells #[.int .i64 0, .int .i64 0, .slice none 0 0] 43); have b2 : Below w.heap.size w ((w1.alloc (.cells #[.int .i64 0, .int .i64 0, .slice none 0 0] 43)).setRow w1.heap.size #[.int .i64 q, .int .i64 d, .slice a nn c]) := bsetRw (b1.alloc b1.size _) b1.size _)
      | (refine wpList_store_row rfl 43 _ _ rfl w1.heap.size #[.int .i64 q, .int .i64 d, .slice a nn c] rfl rfl 43 _ hz (inf43 _ _ _) rfl (Fd.one3 _ _ _ rfl) ?_)
      | (go_at_call 25; refine (HPW.out _).mono ?_; rintro e w3 ⟨x, rfl, hx, b3⟩; have HX : Hid (Sl w3 x L1) := hx; replace b3 := Below.next b2 b3; clear hx HPW b2 b1 hz)
      | (go_at_call 24; refine (HLO.out _ _ HX.out).mono ?_; rintro e w4 ⟨cap, b, rfl, hy, b4⟩; have HY : Hid (Sl w4 (.slice (some ⟨b, 0, none⟩) n cap) L2) := hy; replace b4 := Below.next b3 b4; clear hy HLO HX b3)
      | (go_at_call 20; refine (HCH.out _ _ HY.out).mono ?_; rintro e w5 ⟨rfl, b5⟩; replace b5 := Below.next b4 b5; clear HCH HY b4))
    exact bodyPost_ret (v := .tuple #[.slice none 0 0, .int .i64 4]) (by simp [results, Tryd.results10, go_sem]) rfl ⟨.inl ⟨hnd, rfl⟩, b5⟩

end Go.Proofs.YtmiinhbffiodmaaDoor
