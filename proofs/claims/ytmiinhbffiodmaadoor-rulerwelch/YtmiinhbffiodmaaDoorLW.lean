/- The law RulerWelch. -/
import Derived.Test.YtmiinhbffiodmaaDoorD4
import Derived.Test.YtmiinhbffiodmaaDoorP9
namespace Go.Proofs.YtmiinhbffiodmaaDoor
open Go.RowKit Go.Maps

/-- Welch's is Costas, or there is none. -/
theorem welch_two (p r : Int) (w : World) (hT : Fd.Tab w) :
    (∃ z : Int, z ≠ 0 ∧ ∀ W, Below w.heap.size w W → Calls Tryd.prog 10 #[.int .i64 p, .int .i64 r] W fun e w' => e = .returned (.tuple #[.slice none 0 0, .int .i64 z]) ∧ Below W.heap.size W w') ∨
    (∀ W, Below w.heap.size w W → Calls Tryd.prog 10 #[.int .i64 p, .int .i64 r] W fun e w' => ∃ x, e = .returned (.tuple #[x, .int .i64 0]) ∧ (∀ V, Below w'.heap.size w' V → Calls Tryd.prog 8 #[x] V fun e w'' => e = .returned (.tuple #[.bool true, .int .i64 0]) ∧ Below V.heap.size V w'') ∧ Below W.heap.size W w') := by
  by_cases h : p < 3 ∨ 13 < p
  · exact .inl ⟨1, by omega, fun W hW => Welch_far p r W h⟩
  · obtain ⟨P, rfl⟩ : ∃ P : Nat, p = P := ⟨p.toNat, by omega⟩
    by_cases h2 : wP P = false ∨ r < 1 ∨ (P : Int) ≤ r
    · exact .inl ⟨1, by omega, fun W hW => Welch_none P r W (hT.below hW) (by omega) (by omega) h2⟩
    · obtain ⟨R, rfl⟩ : ∃ R : Nat, r = R := ⟨r.toNat, by omega⟩
      have hp : wP P = true := by
        cases e : wP P
        · exact absurd (.inl e) h2
        · rfl
      have hr1 : 1 ≤ R := by omega
      have hr2 : R < P := by omega
      by_cases hn : (weL P R (P - 1)).Nodup
      · refine .inr fun W hW => (Welch_main P R W (hT.below hW) (by omega) (by omega) hp hr1 hr2).mono ?_
        rintro e w' ⟨⟨h', _⟩ | ⟨_, x, rfl, hx⟩, hb⟩
        · exact absurd hn h'
        · refine ⟨x, rfl, fun V hV => ?_, hb⟩
          have hlt : ∀ i, i < P - 1 → wlF P R i < P - 1 := fun i hi => wel_lt hp (by omega) (by omega) hr1 hr2 hi
          obtain ⟨n', f', _, Pm', e'⟩ := pF_ok ((pF_nodup (by omega) hlt).2 hn)
          have hinj : ∀ i j, i < P - 1 → j < P - 1 → wlF P R i = wlF P R j → i = j := fun i j hi hj e => by
            have en : P - 1 = n' := by have := congrArg List.length e'; rwa [pl_len, pl_len] at this
            have ef : ∀ i, i < P - 1 → wlF P R i = f' i := fun i hi => by
              have := congrArg (fun l => l.getD i 0) e'
              simp only [pl_at _ hi, pl_at f' (show i < n' by omega)] at this
              omega
            exact Pm'.inj i j (by omega) (by omega) (by rw [← ef i hi, ← ef j hj]; exact e)
          have h3 := Costas_good (P - 1) (wlF P R) x V (hx.below hV) (by omega) ⟨hlt, hinj⟩
          have hw := welch_all ⟨P, by omega⟩ ⟨R, by omega⟩ hp hr1 hr2 hn
          simp only at hw
          rw [hw] at h3
          exact h3
      · refine .inl ⟨4, by omega, fun W hW => (Welch_main P R W (hT.below hW) (by omega) (by omega) hp hr1 hr2).mono ?_⟩
        rintro e w' ⟨⟨_, rfl⟩ | ⟨h', _⟩, hb⟩
        · exact ⟨rfl, hb⟩
        · exact absurd h' hn
theorem rev_pm {n : Nat} {f : Nat → Nat} (P : Pm n f) : Pm n fun i => f (n - 1 - i) :=
  ⟨fun i hi => P.lt _ (by omega), fun i j hi hj e => by have := P.inj _ _ (by omega) (by omega) e; omega⟩
theorem pl_up (k : Nat) (g : Nat → Nat) : (pl (k + 1) g).map (Value.int .i64) = (pl k g).map (Value.int .i64) ++ [.int .i64 (g k : Int)] := by rw [pl_succ, List.map_append]; rfl
set_option maxRecDepth 100000 in
set_option maxHeartbeats 8000000 in
theorem welch_nb (p r : Int) (w : World) (hT : Fd.Tab w) (z : Int) (hz : z ≠ 0) (hW : ∀ W, Below w.heap.size w W → Calls Tryd.prog 10 #[.int .i64 p, .int .i64 r] W fun e w' => e = .returned (.tuple #[.slice none 0 0, .int .i64 z]) ∧ Below W.heap.size W w') (b : List Int) (u : Value) (hu : Sl w u b) (hbl : b.length ≤ maxLen) (hb : pF b ≠ 0) :
    Calls Tryd.prog 4 #[.int .i64 p, .int .i64 r, u] w fun e w' => e = .returned (.bool true) ∧ Below w.heap.size w w' := by
  have C0 := fact_any w hT
  have HW : Hid (∀ W, Below w.heap.size w W → Calls Tryd.prog 10 #[.int .i64 p, .int .i64 r] W fun e w' => e = .returned (.tuple #[.slice none 0 0, .int .i64 z]) ∧ Below W.heap.size W w') := hW
  have hz1 : (z == 0) = false := by simpa using hz
  have hz2 : (z != 0) = true := by simpa using hz
  have HC : Hid (∀ W, Below w.heap.size w W → Calls Tryd.prog 8 #[u] W fun e w' => e = .returned (.tuple #[.bool false, .int .i64 (pF b)]) ∧ Below W.heap.size W w') := fun W hW => Costas_bad b u W (hu.below hW) hbl _ rfl hb
  obtain ⟨y, Hy⟩ : ∃ y, Hid (pF b = y) := ⟨_, rfl⟩
  rw [Hy.out] at HC hb
  have hy1 : (y != 0) = true := by simpa using hb
  have hy2 : (y == 0) = false := by simpa using hb
  clear hT hW hu hbl
  go_enter Tryd.func4, Tryd.ntmps4
  go_wp2_with (first
    | (go_at_call 15; refine C0.mono ?_; rintro e w1 ⟨rfl, b1⟩; clear C0)
    | (go_at_call 10; refine (HW.out _ b1).mono ?_; rintro e w2 ⟨rfl, b2⟩; clear HW; replace b2 := Below.next b1 b2)
    | (go_at_call 8; refine (HC.out _ b2).mono ?_; rintro e w4 ⟨rfl, b4⟩; clear HC; replace b4 := Below.next b2 b4))
  go_ret
  exact ⟨rfl, b4⟩
set_option maxRecDepth 100000 in
set_option maxHeartbeats 8000000 in
theorem welch_sb (p r : Int) (w : World) (hT : Fd.Tab w) (hW : ∀ W, Below w.heap.size w W → Calls Tryd.prog 10 #[.int .i64 p, .int .i64 r] W fun e w' => ∃ x, e = .returned (.tuple #[x, .int .i64 0]) ∧ (∀ V, Below w'.heap.size w' V → Calls Tryd.prog 8 #[x] V fun e w'' => e = .returned (.tuple #[.bool true, .int .i64 0]) ∧ Below V.heap.size V w'') ∧ Below W.heap.size W w') (b : List Int) (u : Value) (hu : Sl w u b) (hbl : b.length ≤ maxLen) (hb : pF b ≠ 0) :
    Calls Tryd.prog 4 #[.int .i64 p, .int .i64 r, u] w fun e w' => e = .returned (.bool true) ∧ Below w.heap.size w w' := by
  have C0 := fact_any w hT
  have HW : Hid (∀ W, Below w.heap.size w W → Calls Tryd.prog 10 #[.int .i64 p, .int .i64 r] W fun e w' => ∃ x, e = .returned (.tuple #[x, .int .i64 0]) ∧ (∀ V, Below w'.heap.size w' V → Calls Tryd.prog 8 #[x] V fun e w'' => e = .returned (.tuple #[.bool true, .int .i64 0]) ∧ Below V.heap.size V w'') ∧ Below W.heap.size W w') := hW
  have HC : Hid (∀ W, Below w.heap.size w W → Calls Tryd.prog 8 #[u] W fun e w' => e = .returned (.tuple #[.bool false, .int .i64 (pF b)]) ∧ Below W.heap.size W w') := fun W hW => Costas_bad b u W (hu.below hW) hbl _ rfl hb
  obtain ⟨y, Hy⟩ : ∃ y, Hid (pF b = y) := ⟨_, rfl⟩
  rw [Hy.out] at HC hb
  have hy1 : (y != 0) = true := by simpa using hb
  have hy2 : (y == 0) = false := by simpa using hb
  clear hT hW hu hbl
  go_enter Tryd.func4, Tryd.ntmps4
  go_wp2_with (first
    | (go_at_call 15; refine C0.mono ?_; rintro e w1 ⟨rfl, b1⟩; clear C0)
    | (go_at_call 10; refine (HW.out _ b1).mono ?_; rintro e w2 ⟨x, rfl, hx, b2⟩; clear HW; have CX := hx w2 (Below.refl _ _); replace b2 := Below.next b1 b2; clear hx)
    | (go_at_call 8; refine CX.mono ?_; rintro e w3 ⟨rfl, b3⟩; clear CX; replace b3 := Below.next b2 b3)
    | (go_at_call 8; refine (HC.out _ b3).mono ?_; rintro e w4 ⟨rfl, b4⟩; clear HC; replace b4 := Below.next b3 b4))
  go_ret
  exact ⟨rfl, b4⟩
set_option maxRecDepth 100000 in
set_option maxHeartbeats 8000000 in
theorem welch_ng (p r : Int) (w : World) (hT : Fd.Tab w) (z : Int) (hz : z ≠ 0) (hW : ∀ W, Below w.heap.size w W → Calls Tryd.prog 10 #[.int .i64 p, .int .i64 r] W fun e w' => e = .returned (.tuple #[.slice none 0 0, .int .i64 z]) ∧ Below W.heap.size W w') (n : Nat) (f : Nat → Nat) (u : Value) (hu : Sl w u (pl n f)) (hn : n ≤ 12) (P : Pm n f) :
    Calls Tryd.prog 4 #[.int .i64 p, .int .i64 r, u] w fun e w' => e = .returned (.bool true) ∧ Below w.heap.size w w' := by
  have C0 := fact_any w hT
  have HW : Hid (∀ W, Below w.heap.size w W → Calls Tryd.prog 10 #[.int .i64 p, .int .i64 r] W fun e w' => e = .returned (.tuple #[.slice none 0 0, .int .i64 z]) ∧ Below W.heap.size W w') := hW
  have hz1 : (z == 0) = false := by simpa using hz
  have hz2 : (z != 0) = true := by simpa using hz
  have HC : Hid (∀ W, Below w.heap.size w W → Calls Tryd.prog 8 #[u] W fun e w' => e = .returned (.tuple #[.bool (cosB n f), .int .i64 0]) ∧ Below W.heap.size W w') := fun W hW => Costas_good n f u W (hu.below hW) hn P
  have HV : Hid (∀ W, Below w.heap.size w W → Calls Tryd.prog 16 #[u] W fun e w' => ∃ x, e = .returned (.tuple #[x, .int .i64 0]) ∧ (∀ V, Below w'.heap.size w' V → Calls Tryd.prog 8 #[x] V fun e w'' => e = .returned (.tuple #[.bool (cosB n f), .int .i64 0]) ∧ Below V.heap.size V w'') ∧ Below W.heap.size W w') := fun W hW => by
    refine (Inverse_ok n f u W hn (hu.below hW) P).mono ?_
    rintro e w' ⟨x, rfl, hx, hb⟩
    refine ⟨x, rfl, fun V hV => ?_, hb⟩
    have h := Costas_good n (iv f) x V (hx.below hV) hn P.iv_pm
    rw [cos_inv (f := f) (g := iv f) (fun x hx => P.iv_lt hx) (fun x hx => P.f_iv hx) P.lt (fun x hx => P.iv_f hx)] at h
    exact h
  have HR : Hid (∀ (W : World) (B : Nat) (v : Value), W.ownsRow B 3 1 v n ((pl n fun i => f (n - 1 - i)).map (Value.int .i64)) → Calls Tryd.prog 8 #[v] W fun e w' => e = .returned (.tuple #[.bool (cosB n f), .int .i64 0]) ∧ Below W.heap.size W w') := fun W B v hv => by
    have h := Costas_good n (fun i => f (n - 1 - i)) v W (own_pl hv) hn (rev_pm P)
    rw [cos_rev] at h
    exact h
  obtain ⟨i3, hi3, hz0, hz1', hz2'⟩ := info3
  obtain ⟨a, c, rfl, hA⟩ := id hu
  rw [pl_len] at hA HC HV ⊢
  have HA : Hid (∀ j, j < n → ∃ bb off, a = some ⟨bb, off, none⟩ ∧ ∀ W, Below w.heap.size w W → W.cell? ⟨bb, off + j, none⟩ = some (.int .i64 (f j : Int))) := fun j hj => by
    obtain ⟨bb, off, e, hc⟩ := hA j hj
    rw [pl_at f hj] at hc
    exact ⟨bb, off, e, fun W hW => (hW.cell (World.block_lt_of_cell? _ _ hc)).trans hc⟩
  have HF : Hid (∀ j, j < n → f j < n) := P.lt
  obtain ⟨q, Hq⟩ : ∃ q, Hid (cosB n f = q) := ⟨_, rfl⟩
  rw [Hq.out] at HC HV HR
  have hqq : (q == q) = true := by simp
  obtain ⟨gf, Hgf⟩ : ∃ gf : Nat → Nat, Hid ((fun i => f (n - 1 - i)) = gf) := ⟨_, rfl⟩
  rw [Hgf.out] at HR
  have HGF : Hid (∀ k j, k < n → (n : Int) - 1 - (k : Int) = (j : Int) → ∀ (jn : Nat), j = (jn : Int) → f jn = gf k) := fun k j hk e jn ej => by rw [← Hgf.out]; show f jn = f (n - 1 - k); rw [show jn = n - 1 - k by omega]
  clear hT hW hu P hA
  go_enter Tryd.func4, Tryd.ntmps4
  go_wp2_with (first
    | (go_at_call 15; refine C0.mono ?_; rintro e w1 ⟨rfl, b1⟩; clear C0)
    | (go_at_call 10; refine (HW.out _ b1).mono ?_; rintro e w2 ⟨rfl, b2⟩; clear HW; replace b2 := Below.next b1 b2)
    | (go_at_call 8; refine (HC.out _ b2).mono ?_; rintro e w4 ⟨rfl, b4⟩; clear HC; replace b4 := Below.next b2 b4)
    | (go_at_call 16; refine (HV.out _ b4).mono ?_; rintro e w5 ⟨y, rfl, hy, b5⟩; clear HV; replace b5 := Below.next b4 b5; have HY : Hid (∀ V, Below w5.heap.size w5 V → Calls Tryd.prog 8 #[y] V fun e w'' => e = .returned (.tuple #[.bool q, .int .i64 0]) ∧ Below V.heap.size V w'') := hy; clear hy))
  obtain ⟨B, HB⟩ : ∃ B, Hid (w5.heap.size = B) := ⟨_, rfl⟩
  have HB5 : Hid (∀ W, Below B w5 W → Below w.heap.size w W) := fun W h => b5.trans (h.mono (by rw [← HB.out]; exact b5.size))
  rw [HB.out] at HY
  have HSZ : Hid (∀ W, Below B w5 W → B ≤ W.heap.size) := fun W h => by rw [← HB.out]; exact h.size
  go_loopw [14, 15] (fun bv jv wr => ∃ (k : Nat) (j : Int) (va : Option Addr) (vc : Nat), bv = .slice va k vc ∧ jv = .int .i64 j ∧ Hid ((n : Int) - 1 - (k : Int) = j) ∧ k ≤ n ∧ wr.ownsRow B 3 1 (.slice va k vc) k ((pl k gf).map (Value.int .i64)) ∧ Below B w5 wr) (fun _ jv _ => (intOf jv + 1).toNat)
  case atStart => exact ⟨0, (n : Int) - 1, none, 0, rfl, rfl, (show (n : Int) - 1 - ((0 : Nat) : Int) = (n : Int) - 1 by omega), by omega, World.ownsRow_nil _ _ _ _, Below.refl _ _⟩
  case round =>
    obtain ⟨k, j, va, vc, rfl, rfl, HJ, hk, hown, hB⟩ := hrel
    by_cases hlt : k < n
    · obtain ⟨jn, hjn⟩ : ∃ jn : Nat, j = (jn : Int) := ⟨j.toNat, by have := HJ.out; omega⟩
      have hgf := HGF.out k j hlt HJ.out jn hjn
      subst hjn
      have hjn2 : jn < n := by have := HJ.out; omega
      obtain ⟨bb, off, rfl, hc0⟩ := HA.out jn hjn2
      have hc := hc0 _ (HB5.out _ hB)
      have hji : (jn : Int) < (n : Int) := by omega
      have hfx := HF.out jn hjn2
      rw [hgf] at hc hfx
      have HPU : Hid ((pl (k + 1) gf).map (Value.int .i64) = (pl k gf).map (Value.int .i64) ++ [.int .i64 (gf k : Int)]) := pl_up k gf
      obtain ⟨x, Hx⟩ : ∃ x, Hid (gf k = x) := ⟨_, rfl⟩
      rw [Hx.out] at hc hfx HPU
      have hsz := HSZ.out _ hB
      clear hc0 hgf
      go_wp2_with (first
        | (at_builtin; refine wpList_append_own _ rfl _ _ 22 rfl B 3 i3 (.int .i64 0) 1 8 und22 hi3 hz0 hz1' hz2' rfl (by decide) _ _ _ rfl (hown.alloc _) ⟨wr.heap.size, 0, none⟩ 1 1 [.int .i64 (x : Int)] rfl rfl (fun j u hj => by (match j, hj with | 0, hj => simp at hj; subst hj; simp [Addr.add])) (fun u hu => by (simp at hu; subst hu; rfl)) (by (unfold maxLen; omega)) (by omega) (by (simp; omega)) ?_; intro v' w8 hown' hgrow _
           have hb8 : Below B w5 w8 := (hB.alloc hsz _).grown hgrow (by simp; omega) (fun k hk => (hown.lt k hk).1)
           obtain ⟨va', vc', rfl⟩ := own_form hown'
           rw [← HPU.out] at hown'
           clear hown hB hgrow)
        | go_in)
      go_roundw
      case rel => exact ⟨k + 1, (jn : Int) - 1, va', vc', rfl, by go_num, (show (n : Int) - 1 - ((k + 1 : Nat) : Int) = (jn : Int) - 1 by have := HJ.out; omega), by omega, hown', hb8⟩
      case measure => simp [intOf]
    · obtain rfl : k = n := by omega
      obtain rfl : j = -1 := by have := HJ.out; omega
      have C7 := HY.out
      have C8 := fun W => HR.out W B (.slice va k vc)
      have HOW : Hid (wr.ownsRow B 3 1 (.slice va k vc) k ((pl k gf).map (Value.int .i64))) := hown
      clear HJ hown
      go_wp2_with (first
        | (go_at_call 8; refine (C8 _ HO6.out).mono ?_; rintro e w7 ⟨rfl, b7⟩; clear C8; replace b7 := Below.next (HB5.out _ hB6) b7)
        | (go_at_call 8; refine (C7 _ hB).mono ?_; rintro e w6 ⟨rfl, b6⟩; clear C7; have HO6 : Hid (w6.ownsRow B 3 1 (.slice va k vc) k ((pl k gf).map (Value.int .i64))) := HOW.out.kept (grownB b6) (Classical.em _); have hB6 : Below B w5 w6 := hB.trans (b6.mono (HSZ.out _ hB)); clear HOW))
      go_ret
      exact ⟨by simp, b7⟩
set_option maxRecDepth 100000 in
set_option maxHeartbeats 8000000 in
theorem welch_sg (p r : Int) (w : World) (hT : Fd.Tab w) (hW : ∀ W, Below w.heap.size w W → Calls Tryd.prog 10 #[.int .i64 p, .int .i64 r] W fun e w' => ∃ x, e = .returned (.tuple #[x, .int .i64 0]) ∧ (∀ V, Below w'.heap.size w' V → Calls Tryd.prog 8 #[x] V fun e w'' => e = .returned (.tuple #[.bool true, .int .i64 0]) ∧ Below V.heap.size V w'') ∧ Below W.heap.size W w') (n : Nat) (f : Nat → Nat) (u : Value) (hu : Sl w u (pl n f)) (hn : n ≤ 12) (P : Pm n f) :
    Calls Tryd.prog 4 #[.int .i64 p, .int .i64 r, u] w fun e w' => e = .returned (.bool true) ∧ Below w.heap.size w w' := by
  have C0 := fact_any w hT
  have HW : Hid (∀ W, Below w.heap.size w W → Calls Tryd.prog 10 #[.int .i64 p, .int .i64 r] W fun e w' => ∃ x, e = .returned (.tuple #[x, .int .i64 0]) ∧ (∀ V, Below w'.heap.size w' V → Calls Tryd.prog 8 #[x] V fun e w'' => e = .returned (.tuple #[.bool true, .int .i64 0]) ∧ Below V.heap.size V w'') ∧ Below W.heap.size W w') := hW
  have HC : Hid (∀ W, Below w.heap.size w W → Calls Tryd.prog 8 #[u] W fun e w' => e = .returned (.tuple #[.bool (cosB n f), .int .i64 0]) ∧ Below W.heap.size W w') := fun W hW => Costas_good n f u W (hu.below hW) hn P
  have HV : Hid (∀ W, Below w.heap.size w W → Calls Tryd.prog 16 #[u] W fun e w' => ∃ x, e = .returned (.tuple #[x, .int .i64 0]) ∧ (∀ V, Below w'.heap.size w' V → Calls Tryd.prog 8 #[x] V fun e w'' => e = .returned (.tuple #[.bool (cosB n f), .int .i64 0]) ∧ Below V.heap.size V w'') ∧ Below W.heap.size W w') := fun W hW => by
    refine (Inverse_ok n f u W hn (hu.below hW) P).mono ?_
    rintro e w' ⟨x, rfl, hx, hb⟩
    refine ⟨x, rfl, fun V hV => ?_, hb⟩
    have h := Costas_good n (iv f) x V (hx.below hV) hn P.iv_pm
    rw [cos_inv (f := f) (g := iv f) (fun x hx => P.iv_lt hx) (fun x hx => P.f_iv hx) P.lt (fun x hx => P.iv_f hx)] at h
    exact h
  have HR : Hid (∀ (W : World) (B : Nat) (v : Value), W.ownsRow B 3 1 v n ((pl n fun i => f (n - 1 - i)).map (Value.int .i64)) → Calls Tryd.prog 8 #[v] W fun e w' => e = .returned (.tuple #[.bool (cosB n f), .int .i64 0]) ∧ Below W.heap.size W w') := fun W B v hv => by
    have h := Costas_good n (fun i => f (n - 1 - i)) v W (own_pl hv) hn (rev_pm P)
    rw [cos_rev] at h
    exact h
  obtain ⟨i3, hi3, hz0, hz1', hz2'⟩ := info3
  obtain ⟨a, c, rfl, hA⟩ := id hu
  rw [pl_len] at hA HC HV ⊢
  have HA : Hid (∀ j, j < n → ∃ bb off, a = some ⟨bb, off, none⟩ ∧ ∀ W, Below w.heap.size w W → W.cell? ⟨bb, off + j, none⟩ = some (.int .i64 (f j : Int))) := fun j hj => by
    obtain ⟨bb, off, e, hc⟩ := hA j hj
    rw [pl_at f hj] at hc
    exact ⟨bb, off, e, fun W hW => (hW.cell (World.block_lt_of_cell? _ _ hc)).trans hc⟩
  have HF : Hid (∀ j, j < n → f j < n) := P.lt
  obtain ⟨q, Hq⟩ : ∃ q, Hid (cosB n f = q) := ⟨_, rfl⟩
  rw [Hq.out] at HC HV HR
  have hqq : (q == q) = true := by simp
  obtain ⟨gf, Hgf⟩ : ∃ gf : Nat → Nat, Hid ((fun i => f (n - 1 - i)) = gf) := ⟨_, rfl⟩
  rw [Hgf.out] at HR
  have HGF : Hid (∀ k j, k < n → (n : Int) - 1 - (k : Int) = (j : Int) → ∀ (jn : Nat), j = (jn : Int) → f jn = gf k) := fun k j hk e jn ej => by rw [← Hgf.out]; show f jn = f (n - 1 - k); rw [show jn = n - 1 - k by omega]
  clear hT hW hu P hA
  go_enter Tryd.func4, Tryd.ntmps4
  go_wp2_with (first
    | (go_at_call 15; refine C0.mono ?_; rintro e w1 ⟨rfl, b1⟩; clear C0)
    | (go_at_call 10; refine (HW.out _ b1).mono ?_; rintro e w2 ⟨x, rfl, hx, b2⟩; clear HW; have CX := hx w2 (Below.refl _ _); replace b2 := Below.next b1 b2; clear hx)
    | (go_at_call 8; refine CX.mono ?_; rintro e w3 ⟨rfl, b3⟩; clear CX; replace b3 := Below.next b2 b3)
    | (go_at_call 8; refine (HC.out _ b3).mono ?_; rintro e w4 ⟨rfl, b4⟩; clear HC; replace b4 := Below.next b3 b4)
    | (go_at_call 16; refine (HV.out _ b4).mono ?_; rintro e w5 ⟨y, rfl, hy, b5⟩; clear HV; replace b5 := Below.next b4 b5; have HY : Hid (∀ V, Below w5.heap.size w5 V → Calls Tryd.prog 8 #[y] V fun e w'' => e = .returned (.tuple #[.bool q, .int .i64 0]) ∧ Below V.heap.size V w'') := hy; clear hy))
  obtain ⟨B, HB⟩ : ∃ B, Hid (w5.heap.size = B) := ⟨_, rfl⟩
  have HB5 : Hid (∀ W, Below B w5 W → Below w.heap.size w W) := fun W h => b5.trans (h.mono (by rw [← HB.out]; exact b5.size))
  rw [HB.out] at HY
  have HSZ : Hid (∀ W, Below B w5 W → B ≤ W.heap.size) := fun W h => by rw [← HB.out]; exact h.size
  go_loopw [14, 15] (fun bv jv wr => ∃ (k : Nat) (j : Int) (va : Option Addr) (vc : Nat), bv = .slice va k vc ∧ jv = .int .i64 j ∧ Hid ((n : Int) - 1 - (k : Int) = j) ∧ k ≤ n ∧ wr.ownsRow B 3 1 (.slice va k vc) k ((pl k gf).map (Value.int .i64)) ∧ Below B w5 wr) (fun _ jv _ => (intOf jv + 1).toNat)
  case atStart => exact ⟨0, (n : Int) - 1, none, 0, rfl, rfl, (show (n : Int) - 1 - ((0 : Nat) : Int) = (n : Int) - 1 by omega), by omega, World.ownsRow_nil _ _ _ _, Below.refl _ _⟩
  case round =>
    obtain ⟨k, j, va, vc, rfl, rfl, HJ, hk, hown, hB⟩ := hrel
    by_cases hlt : k < n
    · obtain ⟨jn, hjn⟩ : ∃ jn : Nat, j = (jn : Int) := ⟨j.toNat, by have := HJ.out; omega⟩
      have hgf := HGF.out k j hlt HJ.out jn hjn
      subst hjn
      have hjn2 : jn < n := by have := HJ.out; omega
      obtain ⟨bb, off, rfl, hc0⟩ := HA.out jn hjn2
      have hc := hc0 _ (HB5.out _ hB)
      have hji : (jn : Int) < (n : Int) := by omega
      have hfx := HF.out jn hjn2
      rw [hgf] at hc hfx
      have HPU : Hid ((pl (k + 1) gf).map (Value.int .i64) = (pl k gf).map (Value.int .i64) ++ [.int .i64 (gf k : Int)]) := pl_up k gf
      obtain ⟨x, Hx⟩ : ∃ x, Hid (gf k = x) := ⟨_, rfl⟩
      rw [Hx.out] at hc hfx HPU
      have hsz := HSZ.out _ hB
      clear hc0 hgf
      go_wp2_with (first
        | (at_builtin; refine wpList_append_own _ rfl _ _ 22 rfl B 3 i3 (.int .i64 0) 1 8 und22 hi3 hz0 hz1' hz2' rfl (by decide) _ _ _ rfl (hown.alloc _) ⟨wr.heap.size, 0, none⟩ 1 1 [.int .i64 (x : Int)] rfl rfl (fun j u hj => by (match j, hj with | 0, hj => simp at hj; subst hj; simp [Addr.add])) (fun u hu => by (simp at hu; subst hu; rfl)) (by (unfold maxLen; omega)) (by omega) (by (simp; omega)) ?_; intro v' w8 hown' hgrow _
           have hb8 : Below B w5 w8 := (hB.alloc hsz _).grown hgrow (by simp; omega) (fun k hk => (hown.lt k hk).1)
           obtain ⟨va', vc', rfl⟩ := own_form hown'
           rw [← HPU.out] at hown'
           clear hown hB hgrow)
        | go_in)
      go_roundw
      case rel => exact ⟨k + 1, (jn : Int) - 1, va', vc', rfl, by go_num, (show (n : Int) - 1 - ((k + 1 : Nat) : Int) = (jn : Int) - 1 by have := HJ.out; omega), by omega, hown', hb8⟩
      case measure => simp [intOf]
    · obtain rfl : k = n := by omega
      obtain rfl : j = -1 := by have := HJ.out; omega
      have C7 := HY.out
      have C8 := fun W => HR.out W B (.slice va k vc)
      have HOW : Hid (wr.ownsRow B 3 1 (.slice va k vc) k ((pl k gf).map (Value.int .i64))) := hown
      clear HJ hown
      go_wp2_with (first
        | (go_at_call 8; refine (C8 _ HO6.out).mono ?_; rintro e w7 ⟨rfl, b7⟩; clear C8; replace b7 := Below.next (HB5.out _ hB6) b7)
        | (go_at_call 8; refine (C7 _ hB).mono ?_; rintro e w6 ⟨rfl, b6⟩; clear C7; have HO6 : Hid (w6.ownsRow B 3 1 (.slice va k vc) k ((pl k gf).map (Value.int .i64))) := HOW.out.kept (grownB b6) (Classical.em _); have hB6 : Below B w5 w6 := hB.trans (b6.mono (HSZ.out _ hB)); clear HOW))
      go_ret
      exact ⟨by simp, b7⟩
theorem welch_law (p r : Int) (b : List Int) (u : Value) (w : World) (hT : Fd.Tab w) (hu : Sl w u b) (hbl : b.length ≤ maxLen) :
    Calls Tryd.prog 4 #[.int .i64 p, .int .i64 r, u] w fun e w' => e = .returned (.bool true) ∧ Below w.heap.size w w' := by
  rcases welch_two p r w hT with ⟨z, hz, hW⟩ | hW
  · by_cases h0 : pF b = 0
    · obtain ⟨n, f, hn, P, rfl⟩ := pF_ok h0
      exact welch_ng p r w hT z hz hW n f u hu hn P
    · exact welch_nb p r w hT z hz hW b u hu hbl h0
  · by_cases h0 : pF b = 0
    · obtain ⟨n, f, hn, P, rfl⟩ := pF_ok h0
      exact welch_sg p r w hT hW n f u hu hn P
    · exact welch_sb p r w hT hW b u hu hbl h0

end Go.Proofs.YtmiinhbffiodmaaDoor
