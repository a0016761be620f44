/- The walks of the document's Lengths and greater. -/
import Derived.Test.YtmaplmgecohjbaaP14
import Derived.Test.YtmaplmgecohjbaaP27
import Derived.Test.YtmaplmgecohjbaaH0
namespace Go.Proofs.Ytmaplmgecohjbaa
open Go.RowKit

/-- How many points lie on cycles of a length. -/
noncomputable def lenC (k : Nat) (f : Nat → Nat) (L : Nat) : Nat := (List.range k).countP fun x => per f x == L
theorem lenC_succ (k : Nat) (f : Nat → Nat) (L : Nat) : lenC (k + 1) f L = lenC k f L + if per f k = L then 1 else 0 := by
  unfold lenC
  rw [List.range_succ, List.countP_append, List.countP_singleton]
  simp
theorem lenC_le (k : Nat) (f : Nat → Nat) (L : Nat) : lenC k f L ≤ k := by
  have := List.countP_le_length (p := fun x => per f x == L) (l := List.range k)
  rw [List.length_range] at this
  exact this
set_option maxHeartbeats 1000000 in
theorem Lengths_any (n : Nat) (f : Nat → Nat) (v : Value) (w : World) (hn : n ≤ 12) (hv : Sl w v (pl n f)) (P : Pm n f) :
    Calls Try.prog 42 #[v] w fun e w' => ∃ x, e = .returned x ∧ Sl w' x (pl (n + 1) (lenC n f)) ∧ Below w.heap.size w w' := by
  obtain ⟨i3, hi, hz0, hz1, hz2⟩ := info3
  obtain ⟨a, ca, rfl, hcv⟩ := hv
  rw [pl_len] at hcv ⊢
  have HV : Hid (∀ j, j < n → ∃ B off, a = some ⟨B, off, none⟩ ∧ w.cell? ⟨B, off + j, none⟩ = some (.int .i64 (f j : Int))) := fun j hj => by
    have := hcv j hj; rw [pl_at f hj] at this; exact this
  have HP : Hid (Pm n f) := P
  clear hcv P
  go_enter Try.func42, Try.ntmps42
  go_wp2_with (first
    | (at_make; refine wpList_make_full _ rfl _ _ 40 rfl w.heap.size 3 i3 (.int .i64 0) 1 und22 hi hz0 hz1 .i64 .i64 ((n : Int) + 1) ((n : Int) + 1) (n + 1) rfl rfl (by omega) (by omega) ?c1 ?c2 (Nat.le_refl _) ?_))
  case c1 => rw [hz2]; omega
  case c2 => unfold maxLen; omega
  intro w1 how1 hgr1
  have hO1 := own_made' how1
  have hb1 : Below w.heap.size w w1 := ⟨hgr1.os, hgr1.tape, hgr1.output, hgr1.size, fun k hk => hgr1.block k hk (by simp)⟩
  clear how1 hgr1
  go_wp2
  go_loopw [4] (fun i wr => ∃ (k : Nat) (h : Nat → Int), i = .int .i64 k ∧ k ≤ n ∧ Own wr w.heap.size (n + 1) h ∧ Hid (∀ L, L < n + 1 → h L = (lenC k f L : Int)) ∧ Below w.heap.size w wr) (fun i _ => (n - intOf i).toNat)
  case atStart => exact ⟨0, _, rfl, by omega, hO1, (fun L _ => by simp [lenC] : ∀ L, L < n + 1 → _), hb1⟩
  case round =>
    clear hO1 hb1
    obtain ⟨k, h, rfl, hk, hO, HH, hb⟩ := hrel
    by_cases hlt : k < n
    · have hki : (k : Int) < n := by omega
      have hdec : decide ((k : Int) < n) = true := by simp; omega
      have hfk := HP.out.lt k hlt
      obtain ⟨x0, Hx0⟩ : ∃ x, Hid (f k = x) := ⟨_, rfl⟩
      obtain ⟨B, off, rfl, hc1⟩ := HV.out k hlt
      have HV2 : Hid (∀ j, j < n → wr.cell? ⟨B, off + j, none⟩ = some (.int .i64 (f j : Int))) := by
        intro j hj
        obtain ⟨B', off', e, hc⟩ := HV.out j hj
        simp only [Option.some.injEq, Addr.mk.injEq, and_true] at e
        obtain ⟨rfl, rfl⟩ := e
        exact (hb.cell (p := ⟨B, off + j, none⟩) (by simpa using block_lt_of_cell hc)).trans hc
      have hc1w := HV2.out k hlt
      rw [Hx0.out] at hc1w hfk
      obtain ⟨p, Hp⟩ : ∃ p, Hid (per f k = p) := ⟨_, rfl⟩
      have hper := HP.out.per hlt
      rw [Hp.out] at hper
      have hp1 : 1 ≤ p := hper.1.1
      have hp2 : p ≤ n := hper.1.2.1
      have HR : Hid (itr f p k = k) := hper.1.2.2
      have HN : Hid (∀ j, 1 ≤ j → j < p → itr f j k ≠ k) := hper.2
      clear hper hc1
      go_wp2
      go_loop [5, 6] (fun c x => ∃ q t : Nat, c = .int .i64 q ∧ x = .int .i64 t ∧ 1 ≤ q ∧ q ≤ p ∧ t < n ∧ Hid (t = itr f q k)) (fun c _ => (p - intOf c).toNat)
      case atStart => exact ⟨1, x0, rfl, rfl, by omega, hp1, hfk, (by rw [← Hx0.out]; rfl : x0 = itr f 1 k)⟩
      case round =>
        obtain ⟨q, t, rfl, rfl, hq1, hq2, htn, HT⟩ := hrel
        have htni : (t : Int) < n := by omega
        by_cases hqp : q < p
        · have hne : t ≠ k := by rw [HT.out]; exact HN.out q hq1 hqp
          have hned : ((t : Int) != (k : Int)) = true := by simp; omega
          have hct := HV2.out t htn
          obtain ⟨t', Ht'⟩ : ∃ t', Hid (f t = t') := ⟨_, rfl⟩
          have ht'n := HP.out.lt t htn
          rw [Ht'.out] at hct ht'n
          go_wp2
          go_round
          case rel =>
            refine ⟨q + 1, t', by go_num, rfl, by omega, by omega, ht'n, ?_⟩
            show t' = f (itr f q k)
            rw [← HT.out, Ht'.out]
          case measure => simp [intOf]; omega
        · obtain rfl : q = p := by omega
          obtain rfl : t = k := by rw [HT.out, HR.out]
          have hned : ((t : Int) != (t : Int)) = false := by simp
          have hcell := hO.cell q (by omega)
          have hfr := hO.frozen q
          obtain ⟨y, Hy⟩ : ∃ y : Nat, Hid (h q = (y : Int)) := ⟨_, HH.out q (by omega)⟩
          have hyb : y ≤ 12 := by
            have h1 := HH.out q (by omega)
            have h2 := lenC_le t f q
            rw [Hy.out] at h1
            omega
          rw [Hy.out] at hcell
          have hqn : (q : Int) < (n : Int) + 1 := by omega
          go_wp2
          go_roundw
          case rel =>
            refine ⟨t + 1, upd h q ((y : Int) + 1), by go_num, by omega, hO.set q _, (fun L hL => ?_ : ∀ L, L < n + 1 → _), hb.setCell (p := ⟨w.heap.size, q, none⟩) (Nat.le_refl _) _⟩
            rw [lenC_succ, Hp.out]
            unfold upd
            by_cases e : L = q
            · subst e
              rw [if_pos rfl, if_pos rfl, ← Hy.out, HH.out L hL]; simp
            · rw [if_neg e, if_neg (fun e' => e e'.symm), HH.out L hL]; simp
          case measure => simp [intOf]; omega
    · obtain rfl : k = n := by omega
      have hkd : decide ((k : Int) < (k : Int)) = false := by simp
      go_wp2
      go_ret
      exact ⟨_, rfl, hO.pl _ (fun L hL => HH.out L hL), hb⟩

open Classical in
/-- Is a greater than b, by what is behind the first numbers? -/
noncomputable def gtB (a b : List Nat) : Bool := decide (∃ i, 1 ≤ i ∧ i < a.length ∧ (∀ j, 1 ≤ j → j < i → a.getD j 0 = b.getD j 0) ∧ b.getD i 0 < a.getD i 0)
theorem getD_ofNat (l : List Nat) (j : Nat) : (l.map Int.ofNat).getD j 0 = (l.getD j 0 : Int) := by
  simp only [List.getD_eq_getElem?_getD, List.getElem?_map]
  cases l[j]? <;> rfl
theorem gtB_cons {n x y : Nat} {a b : List Nat} (ha : a.length = n) : gtB (x :: a) (y :: b) = true ↔ ltT n b a := by
  classical
  unfold gtB ltT LexLt
  rw [decide_eq_true_iff]
  constructor
  · rintro ⟨i, h1, h2, h3, h4⟩
    obtain ⟨k, rfl⟩ : ∃ k, i = k + 1 := ⟨i - 1, by omega⟩
    refine ⟨k, by simp at h2; omega, fun j hj => ?_, by simpa using h4⟩
    have := h3 (j + 1) (by omega) (by omega)
    simpa using this.symm
  · rintro ⟨k, h2, h3, h4⟩
    refine ⟨k + 1, by omega, by simp; omega, fun j h1 hj => ?_, by simpa using h4⟩
    obtain ⟨j', rfl⟩ : ∃ k, j = k + 1 := ⟨j - 1, by omega⟩
    have := h3 j' (by omega)
    simpa using this.symm

set_option maxHeartbeats 1000000 in
theorem greater_any (a b : List Nat) (v u : Value) (w : World) (hv : Sl w v (a.map Int.ofNat)) (hu : Sl w u (b.map Int.ofNat)) (h1 : 1 ≤ a.length) (he : a.length = b.length) (h9 : a.length ≤ 100) :
    Calls Try.prog 43 #[v, u] w fun e w' => e = .returned (.bool (gtB a b)) ∧ Below w.heap.size w w' := by
  obtain ⟨n, Hn⟩ : ∃ n : Nat, Hid (n = a.length) := ⟨_, rfl⟩
  have hln : (a.map Int.ofNat).length = n := by rw [List.length_map, Hn.out]
  have hmn : (b.map Int.ofNat).length = n := by rw [List.length_map, Hn.out, he]
  rw [← Hn.out] at h1 h9
  obtain ⟨vb, off, cap, rfl, hbw, hlc⟩ := hv.form hln (by omega)
  obtain ⟨ub, off', cap', rfl, hbw', hmc⟩ := hu.form hmn (by omega)
  clear he hln hmn
  go_enter Try.func43, Try.ntmps43
  go_wp2
  go_loopw [5] (fun i wr => ∃ j : Nat, i = .int .i64 j ∧ 1 ≤ j ∧ j ≤ n ∧ Hid (∀ t, 1 ≤ t → t < j → a.getD t 0 = b.getD t 0) ∧ Below w.heap.size w wr) (fun i _ => (n - intOf i).toNat)
  case atStart => exact ⟨1, rfl, by omega, by omega, (fun t ht h => by omega : ∀ t, 1 ≤ t → t < 1 → _), Below.refl _ _⟩
  case round =>
    obtain ⟨j, rfl, hj1, hj, HALL, hb⟩ := hrel
    by_cases hlt : j < n
    · obtain ⟨x, Hx⟩ : ∃ z : Nat, Hid (a.getD j 0 = z) := ⟨_, rfl⟩
      obtain ⟨y, Hy⟩ : ∃ z : Nat, Hid (b.getD j 0 = z) := ⟨_, rfl⟩
      have hcx := (hb.cell (p := ⟨vb, off + j, none⟩) hbw).trans (hlc j hlt)
      rw [show (a.map Int.ofNat).getD j 0 = (x : Int) by rw [← Hx.out]; exact getD_ofNat a j] at hcx
      have hcy := (hb.cell (p := ⟨ub, off' + j, none⟩) hbw').trans (hmc j hlt)
      rw [show (b.map Int.ofNat).getD j 0 = (y : Int) by rw [← Hy.out]; exact getD_ofNat b j] at hcy
      have hji : (j : Int) < n := by omega
      have hj0 : (0 : Int) ≤ (j : Int) := by omega
      have hdec : decide ((j : Int) < n) = true := by simp; omega
      by_cases hxy : x = y
      · have HXY : Hid (x = y) := hxy
        have hbn : ((x : Int) != (y : Int)) = false := by rw [hxy]; simp
        clear hxy
        go_wp2
        go_quiet (fail)
        go_wp2
        go_roundw
        case rel =>
          refine ⟨j + 1, by go_num, by omega, by omega, (fun t h1 ht => ?_ : ∀ t, 1 ≤ t → t < j + 1 → _), bdrewN hb _⟩
          by_cases e : t = j
          · subst e; rw [Hx.out, Hy.out]; exact HXY.out
          · exact HALL.out t h1 (by omega)
        case measure => simp [intOf]; omega
      · have HXY : Hid (x ≠ y) := hxy
        have hbn : ((x : Int) != (y : Int)) = true := by simp; omega
        have HZ : Hid (gtB a b = decide (y < x)) := by
          show _ = _
          classical
          unfold gtB
          refine decide_eq_decide.2 ⟨?_, fun h => ⟨j, hj1, by rw [← Hn.out]; exact hlt, HALL.out, ?_⟩⟩
          · rintro ⟨i, k1, k2, k3, k4⟩
            rcases Nat.lt_trichotomy i j with e | e | e
            · have := HALL.out i k1 e; omega
            · subst e; rw [Hx.out, Hy.out] at k4; omega
            · have := k3 j hj1 e; rw [Hx.out, Hy.out] at this; exact absurd this HXY.out
          · rw [Hx.out, Hy.out]; omega
        clear hxy
        go_wp2
        go_quiet (fail)
        go_wp2
        go_quiet (fail)
        go_wp2
        go_ret
        exact ⟨by rw [HZ.out]; rfl, bdrewN (bdrewN hb _) _⟩
    · have hdec : decide ((j : Int) < n) = false := by simp; omega
      have HZ : Hid (gtB a b = false) := by
        show _ = _
        classical
        unfold gtB
        refine decide_eq_false ?_
        rintro ⟨i, k1, k2, k3, k4⟩
        have := HALL.out i k1 (by have := Hn.out; omega)
        omega
      go_wp2
      go_ret
      exact ⟨by rw [HZ.out]; rfl, hb⟩

end Go.Proofs.Ytmaplmgecohjbaa
