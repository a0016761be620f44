/- The law DesignOther. -/
import Derived.Test.YtnnopfdckillpabDoorF6
import Derived.Test.YtnnopfdckillpabDoorLFi
import Derived.Test.YtnnopfdckillpabDoorDDe
namespace Go.Proofs.YtnnopfdckillpabDoor
open Go.RowKit

theorem good_oth {v : Nat} {B : List (List Nat)} (G : GoodD v B) : GoodD v (B.map (oth v)) :=
  ⟨G.pos, G.le, by rw [List.length_map]; exact G.few, fun b hb => by
    obtain ⟨c, _, rfl⟩ := List.mem_map.1 hb
    exact rs_iff.2 ⟨oth_rise v c, fun x hx => ⟨Nat.zero_le _, (oth_mem.1 hx).1⟩⟩⟩
theorem oth_twice {v : Nat} {B : List (List Nat)} (G : GoodD v B) : (B.map (oth v)).map (oth v) = B := by
  rw [List.map_map]
  conv => rhs; rw [← List.map_id B]
  refine List.map_congr_left fun b hb => ?_
  have hr := rs_iff.1 (G.rs b hb)
  exact oth_oth hr.1 fun x hx => (hr.2 x hx).2
theorem other_ok {v t k l : Nat} {B : List (List Nat)} (G : GoodD v B) (h : LvOk v B t k l) (ht : t ≤ v) (hk : t ≤ k) : ∃ q, LvOk v (B.map (oth v)) t (v - k) q := by
  obtain ⟨q, hq⟩ := lev_oth (lev_all G.bls h.2.1 ht hk h.2.2)
  refine ⟨q, fun e => h.1 (List.map_eq_nil_iff.1 e), fun b hb => ?_, hq⟩
  obtain ⟨c, hc, rfl⟩ := List.mem_map.1 hb
  have h1 := oth_len (G.bls c hc)
  have h2 := h.2.1 c hc
  omega
theorem lvt_zero {v : Nat} {B : List (List Nat)} {t : Int} {k l : Nat} (h : LvT v B t (.returned (.tuple #[.int .i64 (k : Int), .int .i64 (l : Int), .int .i64 0]))) : ∃ m : Nat, t = m ∧ m ≤ 4 ∧ m ≤ v ∧ LvOk v B m k l := by
  rcases id h with ⟨_, e⟩ | ⟨m, rfl, h4, hv, _⟩
  · simp at e
  · exact ⟨m, rfl, h4, hv, (lvt_ok h).1⟩

theorem lvt_k {v : Nat} {B : List (List Nat)} {t : Int} {k l g : Nat} (G : GoodD v B) (h : LvT v B t (.returned (.tuple #[.int .i64 (k : Int), .int .i64 (l : Int), .int .i64 (g : Int)]))) : k ≤ v := by
  rcases id h with ⟨_, e⟩ | ⟨m, rfl, h4, hv, ⟨k', l', h1, e⟩ | ⟨_, e⟩⟩
  · simp only [Ending.returned.injEq, Value.tuple.injEq, Array.mk.injEq, List.cons.injEq, Value.int.injEq, true_and] at e
    omega
  · simp only [Ending.returned.injEq, Value.tuple.injEq, Array.mk.injEq, List.cons.injEq, Value.int.injEq, true_and] at e
    obtain ⟨b, hb⟩ := List.exists_mem_of_ne_nil _ h1.1
    have h2 := h1.2.1 b hb
    have h3 := (G.bls b hb).le
    omega
  · simp only [Ending.returned.injEq, Value.tuple.injEq, Array.mk.injEq, List.cons.injEq, Value.int.injEq, true_and] at e
    omega
theorem other_end {v : Nat} {t : Int} {B : List (List Nat)} {k l k' l' g' : Nat} (G : GoodD v B) (h : LvT v B t (.returned (.tuple #[.int .i64 (k : Int), .int .i64 (l : Int), .int .i64 0]))) (h' : LvT v (B.map (oth v)) t (.returned (.tuple #[.int .i64 (k' : Int), .int .i64 (l' : Int), .int .i64 (g' : Int)]))) (hk : t ≤ (k : Int)) : g' = 0 ∧ k' = v - k := by
  obtain ⟨m, rfl, h4, hv, hL⟩ := lvt_zero h
  obtain ⟨q, hq⟩ := other_ok G hL hv (by omega)
  have e := h'.one (.inr ⟨m, rfl, h4, hv, .inl ⟨_, _, hq, rfl⟩⟩)
  simp only [Ending.returned.injEq, Value.tuple.injEq, Array.mk.injEq, List.cons.injEq, Value.int.injEq, true_and] at e
  omega

set_option maxRecDepth 100000 in
set_option maxHeartbeats 8000000 in
theorem Other_good (v : Nat) (t : Int) (B : List (List Nat)) (u : Value) (w : World) (hT : Tab w) (_ht : (Lit.int .i64 t).wf = true) (G : GoodD v B) (hu : Rw w u (toZ B)) :
    Calls Tryd.prog 3 #[.agg #[.int .i64 (v : Int), u], .int .i64 t] w fun e w' => e = .returned (.bool true) ∧ Below w.heap.size w w' := by
  have HC : Hid (∀ W, Below (w.alloc (.cells #[.int .i64 (v : Int), u] 24)).heap.size (w.alloc (.cells #[.int .i64 (v : Int), u] 24)) W → W.cell? ⟨w.heap.size, 0, none⟩ = some (.int .i64 (v : Int)) ∧ W.cell? ⟨w.heap.size, 1, none⟩ = some u) := des_box v u w
  obtain ⟨w0, Hw0⟩ : ∃ w0, Hid (w0 = w.alloc (.cells #[.int .i64 (v : Int), u] 24)) := ⟨_, rfl⟩
  rw [← Hw0.out] at HC
  have hb0 : Below w.heap.size w w0 := by rw [Hw0.out]; exact balloc _ _
  have hb0' : Hid (Below w.heap.size w w0) := hb0
  have G2 := good_oth G
  have C1 := fact_any w0
  have C2 : Hid (∀ W, Below w0.heap.size w0 W → Calls Tryd.prog 6 #[.agg #[.int .i64 (v : Int), u]] W fun e w' => ∃ y, e = .returned (.tuple #[.agg #[.int .i64 (v : Int), y], .int .i64 0]) ∧ Rw w' y (toZ (B.map (oth v))) ∧ Below W.heap.size W w') := fun W hW => Complement_good v B u W ((hT.next hb0).next hW) G (hu.below (Below.next hb0 hW))
  have C3 : Hid (∀ y W, Below w0.heap.size w0 W → Rw W y (toZ (B.map (oth v))) → Calls Tryd.prog 6 #[.agg #[.int .i64 (v : Int), y]] W fun e w' => ∃ z, e = .returned (.tuple #[.agg #[.int .i64 (v : Int), z], .int .i64 0]) ∧ Rw w' z (toZ B) ∧ Below W.heap.size W w') := fun y W hW hy => by
    have := Complement_good v _ y W ((hT.next hb0).next hW) G2 hy
    rw [oth_twice G] at this
    exact this
  obtain ⟨hll, hlm⟩ := good_max G
  have C4 : Hid (∀ z W, Below w0.heap.size w0 W → Rw W z (toZ B) → Calls Tryd.prog 7 #[.agg #[.int .i64 (v : Int), z], .agg #[.int .i64 (v : Int), u]] W fun e w' => e = .returned (.bool true) ∧ Below W.heap.size W w') := fun z W hW hz => by
    refine (Designs_any v v (toZ B) (toZ B) z u W hz (hu.below (Below.next hb0 hW)) hlm hlm hll hll).mono ?_
    rintro e w' ⟨b, rfl, hb, hb2⟩
    rw [hb.2 ⟨rfl, rfl⟩]
    exact ⟨rfl, hb2⟩
  have C5 : Hid (∀ W, Below w0.heap.size w0 W → Calls Tryd.prog 8 #[.agg #[.int .i64 (v : Int), u], .int .i64 t] W fun e w' => LvT v B t e ∧ Below W.heap.size W w') := fun W hW => Level_any v t B u W G (hu.below (Below.next hb0 hW))
  have C6 : Hid (∀ y W, Rw W y (toZ (B.map (oth v))) → Calls Tryd.prog 8 #[.agg #[.int .i64 (v : Int), y], .int .i64 t] W fun e w' => LvT v (B.map (oth v)) t e ∧ Below W.heap.size W w') := fun y W hy => Level_any v t _ y W G2 hy
  have HG : Hid (GoodD v B) := G
  have HDB : Hid (∀ (y : Value) (W W' : World), Below (W.alloc (.cells #[.int .i64 (v : Int), y] 24)).heap.size (W.alloc (.cells #[.int .i64 (v : Int), y] 24)) W' → W'.cell? ⟨W.heap.size, 0, none⟩ = some (.int .i64 (v : Int)) ∧ W'.cell? ⟨W.heap.size, 1, none⟩ = some y) := fun y W W' h => des_box v y W W' h
  have hv40 := G.le
  obtain ⟨x0, x1⟩ := HC.out _ (Below.refl _ _)
  rw [Hw0.out] at x0 x1
  obtain ⟨ua, uc, rfl⟩ := rw_form hu
  rw [toZ_len] at *
  generalize hn : B.length = n at *
  clear hu G G2 hb0 hT hll hlm
  go_enter Tryd.func3, Tryd.ntmps3
  go_wp2_with (first
    | (go_at_call 5; rw [← Hw0.out]; refine C1.mono ?_; rintro e w1 ⟨rfl, hb1⟩; clear C1; obtain ⟨y0, y1⟩ := HC.out _ hb1)
    | (go_at_call 6; refine (C2.out _ hb1).mono ?_; rintro e w2 ⟨y, rfl, hy, hb2⟩; clear C2; replace hb2 := Below.next hb1 hb2; obtain ⟨ya, yc, ey⟩ := rw_form hy; rw [toZ_len, List.length_map, hn] at ey; have bb := balloc w2 (.cells #[.int .i64 (v : Int), y] 24); have hb3 := Below.next hb2 bb; have HYR : Hid (Rw (w2.alloc (.cells #[.int .i64 (v : Int), y] 24)) y (toZ (B.map (oth v)))) := hy.below bb; have HBB : Hid (Below w0.heap.size w0 (w2.alloc (.cells #[.int .i64 (v : Int), y] 24))) := hb3; obtain ⟨p0, p1⟩ := HDB.out y w2 _ (Below.refl _ _); clear hy; obtain ⟨q0, q1⟩ := HC.out _ hb3; subst ey)
    | (go_at_call 6; refine (C3.out _ _ HBB.out HYR.out).mono ?_; rintro e w4 ⟨z, rfl, hz, hb4⟩; clear C3; obtain ⟨za, zc, ez⟩ := rw_form hz; rw [toZ_len, hn] at ez; have bz := balloc w4 (.cells #[.int .i64 (v : Int), z] 24); have hb5 := Below.next hb4 bz; obtain ⟨r0, r1⟩ := HDB.out _ w2 _ hb5; have hb6 := Below.next HBB.out hb5; have HZR : Hid (Rw (w4.alloc (.cells #[.int .i64 (v : Int), z] 24)) z (toZ B)) := hz.below bz; clear hz; obtain ⟨s0, s1⟩ := HDB.out z w4 _ (Below.refl _ _); obtain ⟨t0, t1⟩ := HC.out _ hb6; have HYZ : Hid (∀ W, Below (w4.alloc (.cells #[.int .i64 (v : Int), z] 24)).heap.size (w4.alloc (.cells #[.int .i64 (v : Int), z] 24)) W → Rw W (.slice ya n yc) (toZ (B.map (oth v))) ∧ Below (w2.alloc (.cells #[.int .i64 (v : Int), .slice ya n yc] 24)).heap.size (w2.alloc (.cells #[.int .i64 (v : Int), .slice ya n yc] 24)) W ∧ Below w0.heap.size w0 W) := (fun W hW => ⟨HYR.out.below (Below.next hb5 hW), Below.next hb5 hW, Below.next hb6 hW⟩); subst ez)
    | (go_at_call 7; refine (C4.out _ _ (HYZ.out _ (Below.refl _ _)).2.2 HZR.out).mono ?_; rintro e w7 ⟨rfl, hb7⟩; obtain ⟨hy7, hc7, hd7⟩ := HYZ.out _ hb7; have HY7 : Hid (Rw w7 (.slice ya n yc) (toZ (B.map (oth v)))) := hy7; clear hy7; obtain ⟨k0, k1⟩ := HC.out _ hd7; obtain ⟨m0, m1⟩ := HDB.out _ w2 _ hc7)
    | (go_at_call 8; refine (C5.out _ hd7).mono ?_; rintro e w8 ⟨hT8, hb8⟩; clear C5; obtain ⟨k, l, g, rfl⟩ := lvt_form hT8; have hkv := lvt_k HG.out hT8; have HT8 : Hid (LvT v B t (.returned (.tuple #[.int .i64 (k : Int), .int .i64 (l : Int), .int .i64 (g : Int)]))) := hT8; clear hT8; have hd8 := Below.next hd7 hb8; have hc8 := Below.next hc7 hb8; have HY8 : Hid (Rw w8 (.slice ya n yc) (toZ (B.map (oth v)))) := HY7.out.below hb8; obtain ⟨n0, n1⟩ := HC.out _ hd8; obtain ⟨o0, o1⟩ := HDB.out _ w2 _ hc8)
    | (go_at_call 8; refine (C6.out _ _ HY8.out).mono ?_; rintro e w9 ⟨hT9, hb9⟩; clear C6; obtain ⟨k', l', g', rfl⟩ := lvt_form hT9; have HT9 : Hid (LvT v (B.map (oth v)) t (.returned (.tuple #[.int .i64 (k' : Int), .int .i64 (l' : Int), .int .i64 (g' : Int)]))) := hT9; clear hT9; have hd9 := Below.next hd8 hb9; obtain ⟨e0, e1⟩ := HC.out _ hd9))
  · go_ret
    exact ⟨rfl, Below.next hb0'.out hd8⟩
  · have hg : g = 0 := by assumption
    have hg' : g' = 0 := by assumption
    have hk : t ≤ (k : Int) := by assumption
    subst hg
    obtain ⟨_, rfl⟩ := other_end HG.out HT8.out HT9.out hk
    go_ret
    refine ⟨ret_bool ?_, Below.next hb0'.out hd9⟩
    rw [beq_iff_eq]
    omega
  · have hg : g = 0 := by assumption
    have hk : t ≤ (k : Int) := by assumption
    subst hg
    exact absurd (other_end HG.out HT8.out HT9.out hk).1 (by assumption)
  · go_ret
    exact ⟨rfl, Below.next hb0'.out hd8⟩
  · go_ret
    exact ⟨rfl, Below.next hb0'.out hd8⟩

set_option maxRecDepth 100000 in
set_option maxHeartbeats 8000000 in
theorem Other_bad (p t : Int) (ls : List (List Int)) (u : Value) (w : World) (hu : Rw w u ls) (hll : ∀ l ∈ ls, l.length ≤ maxLen) (hlm : ls.length ≤ maxLen) (hz : dF p ls ≠ 0) :
    Calls Tryd.prog 3 #[.agg #[.int .i64 p, u], .int .i64 t] w fun e w' => e = .returned (.bool true) ∧ Below w.heap.size w w' := by
  have HC : Hid (∀ W, Below (w.alloc (.cells #[.int .i64 p, u] 24)).heap.size (w.alloc (.cells #[.int .i64 p, u] 24)) W → W.cell? ⟨w.heap.size, 0, none⟩ = some (.int .i64 p) ∧ W.cell? ⟨w.heap.size, 1, none⟩ = some u) := des_box p u w
  obtain ⟨w0, Hw0⟩ : ∃ w0, Hid (w0 = w.alloc (.cells #[.int .i64 p, u] 24)) := ⟨_, rfl⟩
  rw [← Hw0.out] at HC
  have hb0 : Below w.heap.size w w0 := by rw [Hw0.out]; exact balloc _ _
  have C1 := fact_any w0
  have C2 : Hid (∀ W, Below w0.heap.size w0 W → Calls Tryd.prog 6 #[.agg #[.int .i64 p, u]] W fun e w' => e = .returned (.tuple #[.agg #[.int .i64 0, .slice none 0 0], .int .i64 (dF p ls : Int)]) ∧ Below W.heap.size W w') := fun W hW => Complement_bad p ls u W (hu.below (Below.next hb0 hW)) hlm hll hz
  obtain ⟨z, Hz⟩ : ∃ z, Hid (dF p ls = z) := ⟨_, rfl⟩
  rw [Hz.out] at C2 hz
  have hd : ((z : Int) != 0) = true := by simp; omega
  obtain ⟨x0, x1⟩ := HC.out _ (Below.refl _ _)
  rw [Hw0.out] at x0 x1
  obtain ⟨ua, uc, rfl⟩ := rw_form hu
  generalize ls.length = n at *
  clear hu hll hz
  go_enter Tryd.func3, Tryd.ntmps3
  go_wp2_with (first
    | (go_at_call 5; rw [← Hw0.out]; refine C1.mono ?_; rintro e w1 ⟨rfl, hb1⟩; clear C1; obtain ⟨y0, y1⟩ := HC.out _ hb1)
    | (go_at_call 6; refine (C2.out _ hb1).mono ?_; rintro e w3 ⟨rfl, hb3⟩; replace hb3 := Below.next hb1 hb3))
  go_ret
  exact ⟨rfl, Below.next hb0 (Below.next hb3 (balloc _ _))⟩

theorem DesignOther_law (p t : Int) (ls : List (List Int)) (u : Value) (w : World) (hT : Tab w) (ht : (Lit.int .i64 t).wf = true) (hu : Rw w u ls) (hll : ∀ l ∈ ls, l.length ≤ maxLen) (hlm : ls.length ≤ maxLen) :
    Calls Tryd.prog 3 #[.agg #[.int .i64 p, u], .int .i64 t] w fun e w' => e = .returned (.bool true) ∧ Below w.heap.size w w' := by
  by_cases hz : dF p ls = 0
  · obtain ⟨v, B, rfl, rfl, G⟩ := dF_ok hz
    exact Other_good v t B u w hT ht G hu
  · exact Other_bad p t ls u w hu hll hlm hz

end Go.Proofs.YtnnopfdckillpabDoor
