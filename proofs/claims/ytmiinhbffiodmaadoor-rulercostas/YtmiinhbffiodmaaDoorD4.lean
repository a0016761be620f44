/- What the laws ask first: rulerFact. -/
import Derived.Test.YtmiinhbffiodmaaDoorD1
import Derived.Test.YtmiinhbffiodmaaDoorP27
import Derived.Test.YtmiinhbffiodmaaDoorR4
import Derived.Test.YtmiinhbffiodmaaDoorW16
/- The walks of powers, lessOne and Welch. -/
namespace Go.Proofs.YtmiinhbffiodmaaDoor
open Go.RowKit Go.Maps

set_option maxRecDepth 100000 in
set_option maxHeartbeats 4000000 in
theorem powers_any (p r n : Nat) (w : World) (hp : p = n + 1) (h1 : 1 ≤ n) (h13 : p ≤ 13) (hr : r < p) :
    Calls Tryd.prog 25 #[.int .i64 (p : Int), .int .i64 (r : Int)] w fun e w' => ∃ x, e = .returned x ∧ Sl w' x (pl n fun i => r ^ i % p) ∧ Below w.heap.size w w' := by
  obtain ⟨i3, hi, hz0, hz1, hz2⟩ := info3
  have hpn : (p : Int) - 1 = (n : Int) := by omega
  have hp0 : ¬ (p : Int) = 0 := by omega
  have hp0' : ¬ p = 0 := by omega
  have hn12 : n ≤ 12 := by omega
  have HS : Hid (∀ k, r ^ k % p * r % p = r ^ (k + 1) % p) := fun k => welch_step p r k
  have HL : Hid (∀ k, r ^ k % p < p) := fun k => Nat.mod_lt _ (by omega)
  have H0 : Hid (((r ^ 0 % p : Nat) : Int) = 1) := by
    show ((r ^ 0 % p : Nat) : Int) = 1
    rw [Nat.pow_zero, Nat.mod_eq_of_lt (by omega)]
    rfl
  obtain ⟨q, Hq⟩ : ∃ q : Nat → Nat, Hid ((fun i => r ^ i % p) = q) := ⟨_, rfl⟩
  have HS' : Hid (∀ k, q k * r % p = q (k + 1)) := fun k => by rw [← Hq.out]; exact HS.out k
  have HL' : Hid (∀ k, q k < p) := fun k => by rw [← Hq.out]; exact HL.out k
  have H0' : Hid (((q 0 : Nat) : Int) = 1) := by show ((q 0 : Nat) : Int) = 1; rw [← Hq.out]; exact H0.out
  rw [Hq.out]
  clear hp HS HL H0 Hq
  go_enter Tryd.func25, Tryd.ntmps25
  go_wp2_with (at_make; refine wpList_make_full _ rfl _ _ 22 rfl w.heap.size 3 i3 (.int .i64 0) 1 und22 hi hz0 hz1 .i64 .i64 (n : Int) (n : Int) n rfl rfl rfl rfl ?c1 ?c2 (Nat.le_refl _) ?_)
  case c1 => rw [hz2]; omega
  case c2 => unfold maxLen; omega
  intro w1 how1 hgr1
  have hO1 := own_made' how1
  have hb1 : Below w.heap.size w w1 := ⟨hgr1.os, hgr1.tape, hgr1.output, hgr1.size, fun k hk => hgr1.block k hk (by simp)⟩
  clear how1 hgr1
  go_wp2
  go_loopw [6, 13] (fun pv iv wr => ∃ (k : Nat) (h : Nat → Int), iv = .int .i64 (k : Int) ∧ k ≤ n ∧ pv = .int .i64 ((q k : Nat) : Int) ∧ Own wr w.heap.size n h ∧ Hid (∀ t, t < k → h t = ((q t : Nat) : Int)) ∧ Below w.heap.size w wr) (fun _ iv _ => (n - intOf iv).toNat)
  case atStart => exact ⟨0, _, rfl, by omega, by rw [H0'.out], hO1, (fun t ht => by omega : ∀ t, t < 0 → _), hb1⟩
  case round =>
    clear hO1 hb1
    obtain ⟨k, h, rfl, hk, rfl, hO, HH, hb⟩ := hrel
    by_cases hlt : k < n
    · have hki : (k : Int) < (n : Int) := by omega
      have hdk : decide ((k : Int) < (n : Int)) = true := by simp; omega
      have hcell := hO.cell k hlt
      have hfr := hO.frozen k
      have hst := HS'.out k
      have hql := HL'.out k
      have HNX : Hid (∀ t, t < k + 1 → upd h k ((q k : Nat) : Int) t = ((q t : Nat) : Int)) := fun t ht => by
        unfold upd
        by_cases e : t = k
        · subst e; rw [if_pos rfl]
        · rw [if_neg e]; exact HH.out t (by omega)
      have hO2 := hO.set k ((q k : Nat) : Int)
      obtain ⟨x, Hx⟩ : ∃ x, Hid (q k = x) := ⟨_, rfl⟩
      obtain ⟨y, Hy⟩ : ∃ y, Hid (q (k + 1) = y) := ⟨_, rfl⟩
      rw [Hx.out] at hst hql hO2 ⊢
      rw [Hy.out] at hst
      have hrem : ((x : Int) * (r : Int)).tmod (p : Int) = (y : Int) := by rw [← hst]; rfl
      have hm1 : x * r ≤ 13 * 13 := Nat.mul_le_mul (by omega) (by omega)
      have hm2 : (0 : Int) ≤ (x : Int) * (r : Int) := Int.mul_nonneg (by omega) (by omega)
      have hm3 : (x : Int) * (r : Int) ≤ 13 * 13 := by have : ((x * r : Nat) : Int) ≤ 13 * 13 := by omega
                                                       rwa [Int.natCast_mul] at this
      clear hst hm1 HH
      go_wp2
      go_roundw
      case rel => exact ⟨k + 1, _, by go_num, by omega, by rw [Hy.out], hO2, (by rw [Hx.out] at HNX; exact HNX), hb.setCell (p := ⟨w.heap.size, k, none⟩) (by simp) _⟩
      case measure => simp [intOf]; omega
    · obtain rfl : k = n := by omega
      have hkd : decide ((k : Int) < (k : Int)) = false := by simp
      have hfin := hO.pl k (f := q) HH.out
      have HFIN : Hid (Sl wr (.slice (some ⟨w.heap.size, 0, none⟩) k k) (pl k q)) := hfin
      clear hO HH hfin
      go_wp2
      go_ret
      exact ⟨_, rfl, HFIN.out, hb⟩
set_option maxRecDepth 100000 in
set_option maxHeartbeats 4000000 in
theorem lessOne_any (n : Nat) (f : Nat → Nat) (u : Value) (w : World) (h12 : n ≤ 12) (hu : Sl w u (pl n f)) (hf : ∀ i, i < n → 1 ≤ f i ∧ f i ≤ 100) :
    Calls Tryd.prog 24 #[u] w fun e w' => ∃ cap b, e = .returned (.slice (some ⟨b, 0, none⟩) n cap) ∧ Sl w' (.slice (some ⟨b, 0, none⟩) n cap) (pl n fun i => f i - 1) ∧ Below w.heap.size w w' := by
  obtain ⟨i3, hi, hz0, hz1, hz2⟩ := info3
  obtain ⟨a, ca, rfl, hcv⟩ := hu
  rw [pl_len] at hcv ⊢
  have HV : Hid (∀ j, j < n → ∃ B off, a = some ⟨B, off, none⟩ ∧ w.cell? ⟨B, off + j, none⟩ = some (.int .i64 (f j : Int))) := fun j hj => by
    have := hcv j hj; rw [pl_at f hj] at this; exact this
  have HF : Hid (∀ i, i < n → 1 ≤ f i ∧ f i ≤ 100) := hf
  clear hcv hf
  go_enter Tryd.func24, Tryd.ntmps24
  go_wp2_with (at_make; refine wpList_make_full _ rfl _ _ 22 rfl w.heap.size 3 i3 (.int .i64 0) 1 und22 hi hz0 hz1 .i64 .i64 (n : Int) (n : Int) n rfl rfl rfl rfl ?c1 ?c2 (Nat.le_refl _) ?_)
  case c1 => rw [hz2]; omega
  case c2 => unfold maxLen; omega
  intro w1 how1 hgr1
  have hO1 := own_made' how1
  have hb1 : Below w.heap.size w w1 := ⟨hgr1.os, hgr1.tape, hgr1.output, hgr1.size, fun k hk => hgr1.block k hk (by simp)⟩
  clear how1 hgr1
  go_wp2
  go_loopw [11] (fun iv wr => ∃ (k : Nat) (h : Nat → Int), iv = .int .i64 (k : Int) ∧ k ≤ n ∧ Own wr w.heap.size n h ∧ Hid (∀ t, t < k → h t = ((f t - 1 : Nat) : Int)) ∧ Below w.heap.size w wr) (fun iv _ => (n - intOf iv).toNat)
  case atStart => exact ⟨0, _, rfl, by omega, hO1, (fun t ht => by omega : ∀ t, t < 0 → _), hb1⟩
  case round =>
    clear hO1 hb1
    obtain ⟨k, h, rfl, hk, hO, HH, hb⟩ := hrel
    by_cases hlt : k < n
    · have hki : (k : Int) < (n : Int) := by omega
      have hdk : decide ((k : Int) < (n : Int)) = true := by simp; omega
      obtain ⟨B, off, rfl, hc1⟩ := HV.out k hlt
      have hfk := HF.out k hlt
      have hc1w := (hb.cell (p := ⟨B, off + k, none⟩) (by simpa using block_lt_of_cell hc1)).trans hc1
      have hcell := hO.cell k hlt
      have hfr := hO.frozen k
      obtain ⟨y, Hy⟩ : ∃ y : Nat, Hid (f k - 1 = y) := ⟨_, rfl⟩
      have hxy : ((f k : Nat) : Int) - 1 = (y : Int) := by have := Hy.out; omega
      have HNX : Hid (∀ t, t < k + 1 → upd h k (y : Int) t = ((f t - 1 : Nat) : Int)) := fun t ht => by
        unfold upd
        by_cases e : t = k
        · subst e; rw [if_pos rfl, Hy.out]
        · rw [if_neg e]; exact HH.out t (by omega)
      have hO2 := hO.set k (y : Int)
      obtain ⟨x, Hx⟩ : ∃ x, Hid (f k = x) := ⟨_, rfl⟩
      rw [Hx.out] at hc1w hxy hfk
      clear HH hc1
      go_wp2
      go_roundw
      case rel => exact ⟨k + 1, _, by go_num, by omega, hO2, HNX, hb.setCell (p := ⟨w.heap.size, k, none⟩) (by simp) _⟩
      case measure => simp [intOf]; omega
    · obtain rfl : k = n := by omega
      have hkd : decide ((k : Int) < (k : Int)) = false := by simp
      have hfin := hO.pl k (f := fun i => f i - 1) HH.out
      have HFIN : Hid (Sl wr (.slice (some ⟨w.heap.size, 0, none⟩) k k) (pl k fun i => f i - 1)) := hfin
      clear hO HH hfin
      go_wp2
      go_ret
      exact ⟨k, w.heap.size, rfl, HFIN.out, hb⟩

end Go.Proofs.YtmiinhbffiodmaaDoor

/- The walk of Welch. -/
namespace Go.Proofs.YtmiinhbffiodmaaDoor
open Go.RowKit Go.Maps

theorem good1 (P n : Nat) : Fd.goodAt P 1 n := by
  intro e h1 h2
  omega
theorem least_prime {p q d : Int} {l : List Int} {z : Int} (h : Fd.LeastIs p 1 q d l z) (hp : Fd.isPrimeB p = true) (h64 : p ≤ 64) : z = 0 := by
  have h2 := (Fd.prime_bd hp).1
  have hpw : p ^ (1 : Int).toNat = p := by
    show p ^ 1 = p
    rw [Int.pow_succ, Int.pow_zero, Int.one_mul]
  have h0 : Fd.ordZ p 1 ≠ 0 := by
    unfold Fd.ordZ
    rw [if_pos ⟨hp, by omega, by omega, by rw [hpw]; exact h64⟩, hpw]
    omega
  rcases h with ⟨a, _⟩ | ⟨P, K, e1, e2, _, ⟨n, _, _, _, _, _, _, ez⟩ | ⟨hno, _⟩⟩
  · exact absurd a h0
  · exact ez
  · obtain rfl : K = 1 := by omega
    have : P ≠ 0 := by omega
    exact absurd (good1 P 0) (hno 0 (by rw [Nat.pow_one]; omega))
theorem least_none {p q d : Int} {l : List Int} {z : Int} (h : Fd.LeastIs p 1 q d l z) (hp : Fd.isPrimeB p = false) : z = 1 := by
  have h0 : Fd.ordZ p 1 = 0 := by
    unfold Fd.ordZ
    rw [if_neg (fun h => by rw [hp] at h; cases h.1)]
  rcases h with ⟨_, _, _, _, ez⟩ | ⟨P, K, e1, e2, hne, _⟩
  · exact ez
  · subst e1
    exact absurd h0 hne
theorem wP_B : ∀ p : Fin 14, 3 ≤ p.val → Fd.isPrimeB (p.val : Int) = wP p.val := by decide +kernel
theorem least_w (p : Nat) (w : World) (h3 : 3 ≤ p) (h13 : p ≤ 13) (hT : Fd.Tab w) :
    Calls Tryd.prog 23 #[.int .i64 (p : Int), .int .i64 1] w fun e w' => ∃ (q d : Int) (a : Option Addr) (n c : Nat), e = .returned (.tuple #[.agg #[.int .i64 q, .int .i64 d, .slice a n c], .int .i64 (if wP p = true then 0 else 1)]) ∧ Below w.heap.size w w' := by
  refine (Fd.least_any p 1 w hT).mono ?_
  rintro e w' ⟨q, d, v, l, z, rfl, ⟨a, c, rfl, _⟩, hL, hb⟩
  have hw := wP_B ⟨p, by omega⟩ h3
  simp only at hw
  refine ⟨q, d, a, l.length, c, ?_, hb⟩
  by_cases hp : wP p = true
  · rw [if_pos hp, least_prime hL (hw.trans hp) (by omega)]
  · rw [if_neg hp, least_none hL (by rw [hw]; simpa using hp)]
set_option maxHeartbeats 4000000 in
theorem Welch_far (p r : Int) (w : World) (h : p < 3 ∨ 13 < p) : Calls Tryd.prog 10 #[.int .i64 p, .int .i64 r] w fun e w' => e = .returned (.tuple #[.slice none 0 0, .int .i64 1]) ∧ Below w.heap.size w w' := by
  by_cases h1 : p < 3
  · have d1 : decide (p < 3) = true := by simpa using h1
    clear h
    go_enter Tryd.func10, Tryd.ntmps10
    go_wp2
    exact bodyPost_ret (v := .tuple #[.slice none 0 0, .int .i64 1]) (by simp [results, Tryd.results10, go_sem]) rfl ⟨rfl, Below.refl _ _⟩
  · have h7 : 13 < p := by omega
    have d1 : decide (p < 3) = false := by simpa using h1
    have d2 : decide (13 < p) = true := by simpa using h7
    clear h
    go_enter Tryd.func10, Tryd.ntmps10
    go_wp2
    exact bodyPost_ret (v := .tuple #[.slice none 0 0, .int .i64 1]) (by simp [results, Tryd.results10, go_sem]) rfl ⟨rfl, Below.refl _ _⟩
theorem pF_nodup {n : Nat} {f : Nat → Nat} (hn : n ≤ 12) (hf : ∀ i, i < n → f i < n) : pF (pl n f) = 0 ↔ ((List.range n).map f).Nodup := by
  constructor
  · intro h
    obtain ⟨n', f', _, P, e⟩ := pF_ok h
    have en : n = n' := by have := congrArg List.length e; rwa [pl_len, pl_len] at this
    subst en
    have ef : ∀ i, i < n → f i = f' i := fun i hi => by
      have := congrArg (fun l => l.getD i 0) e
      simp only [pl_at f hi, pl_at f' hi] at this
      omega
    rw [List.nodup_iff_pairwise_ne, List.pairwise_map]
    refine List.Pairwise.imp_of_mem (R := fun a b => a ≠ b) (fun {a b} ha hb hne e => ?_) List.nodup_range
    have ha := List.mem_range.1 ha
    have hb := List.mem_range.1 hb
    exact hne (P.inj a b ha hb (by rw [← ef a ha, ← ef b hb]; exact e))
  · intro h
    refine pF_pl ⟨hf, fun i j hi hj e => ?_⟩ hn
    rw [List.nodup_iff_pairwise_ne, List.pairwise_map] at h
    have h' := List.pairwise_iff_getElem.1 h
    rcases Nat.lt_trichotomy i j with hl | hl | hl
    · exact absurd e (by have := h' i j (by simpa using hi) (by simpa using hj) hl; rwa [List.getElem_range, List.getElem_range] at this)
    · exact hl
    · exact absurd e.symm (by have := h' j i (by simpa using hj) (by simpa using hi) hl; rwa [List.getElem_range, List.getElem_range] at this)
theorem wel_pm {p r : Nat} (hp : wP p = true) (h3 : 3 ≤ p) (h13 : p ≤ 13) (hr1 : 1 ≤ r) (hr : r < p) {i : Nat} (hi : i < p - 1) : 1 ≤ r ^ i % p ∧ r ^ i % p < p := ⟨welch_pos ⟨p, by omega⟩ ⟨r, by omega⟩ ⟨i, by omega⟩ hp hr1 hr, Nat.mod_lt _ (by omega)⟩
theorem wel_lt {p r : Nat} (hp : wP p = true) (h3 : 3 ≤ p) (h13 : p ≤ 13) (hr1 : 1 ≤ r) (hr : r < p) {i : Nat} (hi : i < p - 1) : wlF p r i < p - 1 := by
  have := wel_pm hp h3 h13 hr1 hr hi
  unfold wlF
  omega
theorem inf43 (q d : Int) (v : Value) : (Tryd.prog.info? 43).map (·.size) = some (#[.int .i64 q, .int .i64 d, v] : Array Value).size := Fd.inf24
set_option maxRecDepth 100000 in
set_option maxHeartbeats 8000000 in
theorem Welch_none (p : Nat) (r : Int) (w : World) (hT : Fd.Tab w) (h3 : 3 ≤ p) (h13 : p ≤ 13) (h : wP p = false ∨ r < 1 ∨ (p : Int) ≤ r) : Calls Tryd.prog 10 #[.int .i64 (p : Int), .int .i64 r] w fun e w' => e = .returned (.tuple #[.slice none 0 0, .int .i64 1]) ∧ Below w.heap.size w w' := by
  have C := least_w p w h3 h13 hT
  have d1 : decide ((p : Int) < 3) = false := by simp; omega
  have d1' : ¬ (p : Int) < 3 := by omega
  have d2 : decide (13 < (p : Int)) = false := by simp; omega
  have d2' : ¬ 13 < (p : Int) := by omega
  have d3 : decide (13 < p) = false := by simp; omega
  have d4 : decide (p < 3) = false := by simp; omega
  by_cases hp : wP p = true
  · rw [if_pos hp] at C
    have hr : r < 1 ∨ (p : Int) ≤ r := by
      rcases h with h | h
      · rw [h] at hp; cases hp
      · exact h
    clear h hp hT
    by_cases hr1 : r < 1
    · have e1 : decide (r < 1) = true := by simpa using hr1
      clear hr
      go_enter Tryd.func10, Tryd.ntmps10
      go_wp2_with (first
        | (go_at_call 23; refine C.mono ?_; rintro e w1 ⟨q, d, a, n, c, rfl, b1⟩; clear C; have hz := heap_alloc_new w1 (.cells #[.int .i64 0, .int .i64 0, .slice none 0 0] 43); have b2 : Below w.heap.size w ((w1.alloc (.cells #[.int .i64 0, .int .i64 0, .slice none 0 0] 43)).setRow w1.heap.size #[.int .i64 q, .int .i64 d, .slice a n c]) := bsetRw (b1.alloc b1.size _) b1.size _)
        | (refine wpList_store_row rfl 43 _ _ rfl w1.heap.size #[.int .i64 q, .int .i64 d, .slice a n c] rfl rfl 43 _ hz (inf43 _ _ _) rfl (Fd.one3 _ _ _ rfl) ?_))
      exact bodyPost_ret (v := .tuple #[.slice none 0 0, .int .i64 1]) (by simp [results, Tryd.results10, go_sem]) rfl ⟨rfl, b2⟩
    · have hr2 : (p : Int) ≤ r := by omega
      have e1 : decide (r < 1) = false := by simpa using hr1
      have e2 : decide ((p : Int) ≤ r) = true := by simpa using hr2
      clear hr
      go_enter Tryd.func10, Tryd.ntmps10
      go_wp2_with (first
        | (go_at_call 23; refine C.mono ?_; rintro e w1 ⟨q, d, a, n, c, rfl, b1⟩; clear C; have hz := heap_alloc_new w1 (.cells #[.int .i64 0, .int .i64 0, .slice none 0 0] 43); have b2 : Below w.heap.size w ((w1.alloc (.cells #[.int .i64 0, .int .i64 0, .slice none 0 0] 43)).setRow w1.heap.size #[.int .i64 q, .int .i64 d, .slice a n c]) := bsetRw (b1.alloc b1.size _) b1.size _)
        | (refine wpList_store_row rfl 43 _ _ rfl w1.heap.size #[.int .i64 q, .int .i64 d, .slice a n c] rfl rfl 43 _ hz (inf43 _ _ _) rfl (Fd.one3 _ _ _ rfl) ?_))
      exact bodyPost_ret (v := .tuple #[.slice none 0 0, .int .i64 1]) (by simp [results, Tryd.results10, go_sem]) rfl ⟨rfl, b2⟩
  · rw [if_neg hp] at C
    clear h hp hT
    go_enter Tryd.func10, Tryd.ntmps10
    go_wp2_with (first
      | (go_at_call 23; refine C.mono ?_; rintro e w1 ⟨q, d, a, n, c, rfl, b1⟩; clear C; have hz := heap_alloc_new w1 (.cells #[.int .i64 0, .int .i64 0, .slice none 0 0] 43); have b2 : Below w.heap.size w ((w1.alloc (.cells #[.int .i64 0, .int .i64 0, .slice none 0 0] 43)).setRow w1.heap.size #[.int .i64 q, .int .i64 d, .slice a n c]) := bsetRw (b1.alloc b1.size _) b1.size _)
      | (refine wpList_store_row rfl 43 _ _ rfl w1.heap.size #[.int .i64 q, .int .i64 d, .slice a n c] rfl rfl 43 _ hz (inf43 _ _ _) rfl (Fd.one3 _ _ _ rfl) ?_))
    exact bodyPost_ret (v := .tuple #[.slice none 0 0, .int .i64 1]) (by simp [results, Tryd.results10, go_sem]) rfl ⟨rfl, b2⟩
set_option maxRecDepth 100000 in
set_option maxHeartbeats 8000000 in
theorem Welch_main (p r : Nat) (w : World) (hT : Fd.Tab w) (h3 : 3 ≤ p) (h13 : p ≤ 13) (hp : wP p = true) (hr1 : 1 ≤ r) (hr : r < p) : Calls Tryd.prog 10 #[.int .i64 (p : Int), .int .i64 (r : Int)] w fun e w' =>
    ((¬ (weL p r (p - 1)).Nodup ∧ e = .returned (.tuple #[.slice none 0 0, .int .i64 4])) ∨ ((weL p r (p - 1)).Nodup ∧ ∃ x, e = .returned (.tuple #[x, .int .i64 0]) ∧ Sl w' x (pl (p - 1) (wlF p r)))) ∧ Below w.heap.size w w' := by
  have C := least_w p w h3 h13 hT
  rw [if_pos hp] at C
  have d1 : decide ((p : Int) < 3) = false := by simp; omega
  have d1' : ¬ (p : Int) < 3 := by omega
  have d2 : decide (13 < (p : Int)) = false := by simp; omega
  have d2' : ¬ 13 < (p : Int) := by omega
  have d3 : decide (13 < p) = false := by simp; omega
  have d4 : decide (p < 3) = false := by simp; omega
  have e1 : decide ((r : Int) < 1) = false := by simp; omega
  have e1' : ¬ (r : Int) < 1 := by omega
  have e1'' : ¬ r = 0 := by omega
  have e2 : decide ((p : Int) ≤ (r : Int)) = false := by simp; omega
  have e2' : ¬ (p : Int) ≤ (r : Int) := by omega
  have e2'' : decide (p ≤ r) = false := by simp; omega
  have e3'' : ¬ p ≤ r := by omega
  have HPF : Hid (pF (pl (p - 1) (wlF p r)) = 0 ↔ (weL p r (p - 1)).Nodup) := pF_nodup (by omega) fun i hi => wel_lt hp h3 h13 hr1 hr hi
  have HPW : Hid (∀ W : World, Calls Tryd.prog 25 #[.int .i64 (p : Int), .int .i64 (r : Int)] W fun e w' => ∃ x, e = .returned x ∧ Sl w' x (pl (p - 1) fun i => r ^ i % p) ∧ Below W.heap.size W w') := fun W => powers_any p r (p - 1) W (by omega) (by omega) h13 hr
  have HLO : Hid (∀ (W : World) (u : Value), Sl W u (pl (p - 1) fun i => r ^ i % p) → Calls Tryd.prog 24 #[u] W fun e w' => ∃ cap b, e = .returned (.slice (some ⟨b, 0, none⟩) (p - 1) cap) ∧ Sl w' (.slice (some ⟨b, 0, none⟩) (p - 1) cap) (pl (p - 1) (wlF p r)) ∧ Below W.heap.size W w') := fun W u hu => lessOne_any (p - 1) _ u W (by omega) hu fun i hi => by have := wel_pm hp h3 h13 hr1 hr hi; omega
  have HCH : Hid (∀ (W : World) (u : Value), Sl W u (pl (p - 1) (wlF p r)) → Calls Tryd.prog 20 #[u] W fun e w' => e = .returned (.int .i64 (pF (pl (p - 1) (wlF p r)))) ∧ Below W.heap.size W w') := fun W u hu => Check_any _ u W hu (by rw [pl_len]; unfold maxLen; omega)
  obtain ⟨z, Hz⟩ : ∃ z, Hid (pF (pl (p - 1) (wlF p r)) = z) := ⟨_, rfl⟩
  rw [Hz.out] at HPF HCH
  obtain ⟨L1, HL1⟩ : ∃ L1, Hid ((pl (p - 1) fun i => r ^ i % p) = L1) := ⟨_, rfl⟩
  rw [HL1.out] at HPW HLO
  obtain ⟨L2, HL2⟩ : ∃ L2, Hid (pl (p - 1) (wlF p r) = L2) := ⟨_, rfl⟩
  rw [HL2.out] at HLO HCH ⊢
  generalize p - 1 = n at *
  clear hp hT
  by_cases hz0 : z = 0
  · have hnd := HPF.out.1 hz0
    subst hz0
    go_enter Tryd.func10, Tryd.ntmps10
    go_wp2_with (first
      | (go_at_call 23; refine C.mono ?_; rintro e w1 ⟨q, d, a, nn, c, rfl, b1⟩; clear C; have hz := heap_alloc_new w1 (.cells #[.int .i64 0, .int .i64 0, .slice none 0 0] 43); have b2 : Below w.heap.size w ((w1.alloc (.cells #[.int .i64 0, .int .i64 0, .slice none 0 0] 43)).setRow w1.heap.size #[.int .i64 q, .int .i64 d, .slice a nn c]) := bsetRw (b1.alloc b1.size _) b1.size _)
      | (refine wpList_store_row rfl 43 _ _ rfl w1.heap.size #[.int .i64 q, .int .i64 d, .slice a nn c] rfl rfl 43 _ hz (inf43 _ _ _) rfl (Fd.one3 _ _ _ rfl) ?_)
      | (go_at_call 25; refine (HPW.out _).mono ?_; rintro e w3 ⟨x, rfl, hx, b3⟩; have HX : Hid (Sl w3 x L1) := hx; replace b3 := Below.next b2 b3; clear hx HPW b2 b1 hz)
      | (go_at_call 24; refine (HLO.out _ _ HX.out).mono ?_; rintro e w4 ⟨cap, b, rfl, hy, b4⟩; have HY : Hid (Sl w4 (.slice (some ⟨b, 0, none⟩) n cap) L2) := hy; replace b4 := Below.next b3 b4; clear hy HLO HX b3)
      | (go_at_call 20; refine (HCH.out _ _ HY.out).mono ?_; rintro e w5 ⟨rfl, b5⟩; have HY5 : Hid (Sl w5 (.slice (some ⟨b, 0, none⟩) n cap) L2) := HY.out.below b5; replace b5 := Below.next b4 b5; clear HCH HY b4))
    exact bodyPost_ret (v := .tuple #[.slice (some ⟨b, 0, none⟩) n cap, .int .i64 0]) (by simp [results, Tryd.results10, go_sem]) rfl ⟨.inr ⟨hnd, _, rfl, HY5.out⟩, b5⟩
  · have hnd : ¬ (weL p r n).Nodup := fun h => hz0 (HPF.out.2 h)
    have hz1 : (z != 0) = true := by simpa using hz0
    go_enter Tryd.func10, Tryd.ntmps10
    go_wp2_with (first
      | (go_at_call 23; refine C.mono ?_; rintro e w1 ⟨q, d, a, nn, c, rfl, b1⟩; clear C; have hz := heap_alloc_new w1 (.cells #[.int .i64 0, .int .i64 0, .slice none 0 0] 43); have b2 : Below w.heap.size w ((w1.alloc (.cells #[.int .i64 0, .int .i64 0, .slice none 0 0] 43)).setRow w1.heap.size #[.int .i64 q, .int .i64 d, .slice a nn c]) := bsetRw (b1.alloc b1.size _) b1.size _)
      | (refine wpList_store_row rfl 43 _ _ rfl w1.heap.size #[.int .i64 q, .int .i64 d, .slice a nn c] rfl rfl 43 _ hz (inf43 _ _ _) rfl (Fd.one3 _ _ _ rfl) ?_)
      | (go_at_call 25; refine (HPW.out _).mono ?_; rintro e w3 ⟨x, rfl, hx, b3⟩; have HX : Hid (Sl w3 x L1) := hx; replace b3 := Below.next b2 b3; clear hx HPW b2 b1 hz)
      | (go_at_call 24; refine (HLO.out _ _ HX.out).mono ?_; rintro e w4 ⟨cap, b, rfl, hy, b4⟩; have HY : Hid (Sl w4 (.slice (some ⟨b, 0, none⟩) n cap) L2) := hy; replace b4 := Below.next b3 b4; clear hy HLO HX b3)
      | (go_at_call 20; refine (HCH.out _ _ HY.out).mono ?_; rintro e w5 ⟨rfl, b5⟩; replace b5 := Below.next b4 b5; clear HCH HY b4))
    exact bodyPost_ret (v := .tuple #[.slice none 0 0, .int .i64 4]) (by simp [results, Tryd.results10, go_sem]) rfl ⟨.inl ⟨hnd, rfl⟩, b5⟩

end Go.Proofs.YtmiinhbffiodmaaDoor

namespace Go.Proofs.YtmiinhbffiodmaaDoor
open Go.RowKit Go.Maps

theorem fact_good : GoodM [0, 1, 4, 6] := ⟨by decide, by decide, by decide, rfl⟩
theorem mF_of {D : List Nat} (h : GoodM D) : mF (D.map Int.ofNat) = 0 := by
  refine mF_zero (by rw [List.length_map]; exact h.few) (fun j hj => ?_) (fun h0 => ?_) (fun j h1 hj => ?_)
  · have := good_bd h j hj
    omega
  · rw [getD_of, h.zero]
    rfl
  · rw [List.length_map] at hj
    rw [getD_of, getD_of]
    have := rise_lt h.rise (show j - 1 < j by omega) hj
    omega
theorem wel_52 : (weL 5 2 (5 - 1)).Nodup := by decide
theorem Sl.len_of {w : World} {u : Value} {l : List Int} {n : Nat} (h : Sl w u l) (hn : l.length = n) : ∃ a c, u = .slice a n c := by
  obtain ⟨a, c, rfl, _⟩ := h
  exact ⟨a, c, by rw [hn]⟩
set_option maxRecDepth 100000 in
set_option maxHeartbeats 4000000 in
theorem fact_any (w : World) (hT : Fd.Tab w) : Calls Tryd.prog 15 #[] w fun e w' => e = .returned (.bool true) ∧ Below w.heap.size w w' := by
  obtain ⟨o, Ho⟩ : ∃ o, Hid (Obj.cells #[.int .i64 0, .int .i64 1, .int .i64 4, .int .i64 6] 3 (0, 0) = o) := ⟨_, rfl⟩
  have b0 : Below w.heap.size w (w.alloc o) := (Below.refl _ _).alloc (Nat.le_refl _) _
  have hn := heap_alloc_new w o
  rw [← Ho.out] at hn b0
  have C := Check_good [0, 1, 4, 6] (.slice (some ⟨w.heap.size, 0, none⟩) 4 4) (w.alloc (.cells #[.int .i64 0, .int .i64 1, .int .i64 4, .int .i64 6] 3)) ⟨_, _, rfl, fun j hj => ⟨w.heap.size, 0, rfl, by
    rw [Nat.zero_add, cell_of_row _ _ _ _ _ _ hn]
    rcases (show j = 0 ∨ j = 1 ∨ j = 2 ∨ j = 3 by simp at hj; omega) with rfl | rfl | rfl | rfl <;> rfl⟩⟩ fact_good (mF_of fact_good)
  rw [show golB [0, 1, 4, 6] = true by decide +kernel] at C
  have HW : Hid (∀ W, Below w.heap.size w W → Calls Tryd.prog 10 #[.int .i64 5, .int .i64 2] W fun e w' => (∃ a c, e = .returned (.tuple #[.slice a 4 c, .int .i64 0])) ∧ Below W.heap.size W w') := fun W hW => by
    refine (Welch_main 5 2 W (hT.below hW) (by omega) (by omega) rfl (by omega) (by omega)).mono ?_
    rintro e w' ⟨⟨h, _⟩ | ⟨_, x, rfl, hx⟩, hb⟩
    · exact absurd wel_52 h
    · obtain ⟨a, c, rfl⟩ := hx.len_of (n := 4) (by rw [pl_len])
      exact ⟨⟨a, c, rfl⟩, hb⟩
  clear hT hn Ho
  go_enter Tryd.func15, Tryd.ntmps15
  go_wp2_with (first
    | (go_at_call 17; refine C.mono ?_; rintro e w1 ⟨rfl, b1⟩; clear C; replace b1 := Below.next b0 b1)
    | (go_at_call 10; refine (HW.out _ b1).mono ?_; rintro e w2 ⟨⟨a, c, rfl⟩, b2⟩; clear HW; replace b2 := Below.next b1 b2))
  go_ret
  exact ⟨rfl, b2⟩

end Go.Proofs.YtmiinhbffiodmaaDoor
