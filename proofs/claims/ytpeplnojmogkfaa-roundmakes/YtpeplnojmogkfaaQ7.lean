/- The document's StrongOf, walked. -/
import Derived.Test.YtpeplnojmogkfaaQ6
namespace Go.Proofs.Ytpeplnojmogkfaa
open Go.RowKit

theorem prZ_at {qs : List (Nat × Nat)} {i : Nat} {p : Nat × Nat} (h : qs[i]? = some p) : (prZ qs)[i]? = some [(p.1 : Int), (p.2 : Int)] := by
  unfold prZ
  rw [List.getElem?_map, h]
  rfl
theorem prZ_len (qs : List (Nat × Nat)) : (prZ qs).length = qs.length := by simp [prZ]
/-- A pair as it is read. -/
theorem pr_cells {w : World} {a : Option Addr} {n c : Nat} {qs : List (Nat × Nat)} (h : Rw w (.slice a n c) (prZ qs)) {i : Nat} {p : Nat × Nat} (hi : qs[i]? = some p) : ∃ b o g o1 c1, a = some ⟨b, o, none⟩ ∧ w.cell? ⟨b, o + i, none⟩ = some (.slice (some ⟨g, o1, none⟩) 2 c1) ∧ w.cell? ⟨g, o1, none⟩ = some (.int .i64 (p.1 : Int)) ∧ w.cell? ⟨g, o1 + 1, none⟩ = some (.int .i64 (p.2 : Int)) := by
  obtain ⟨b, o, u, e, hc, hs⟩ := h.at (prZ_at hi) rfl
  obtain ⟨g, o1, c1, rfl, _, hk⟩ := hs.form (n := 2) rfl (by omega)
  exact ⟨b, o, g, o1, c1, e, hc, hk 0 (by omega), hk 1 (by omega)⟩
theorem own_one0 (w : World) (x : Int) : (w.alloc (.cells #[.int .i64 x] 3)).ownsRow w.heap.size 3 1 (.slice (some ⟨w.heap.size, 0, none⟩) 1 1) 1 [.int .i64 x] :=
  ⟨rfl, .inr ⟨w.heap.size, 1, #[.int .i64 x], rfl, Nat.le_refl _, heap_alloc_new w _, by omega, by unfold maxLen; omega, rfl, rfl⟩⟩
theorem smS_more (v : Nat) (qs : List (Nat × Nat)) (p : Nat × Nat) : smS v (qs ++ [p]) = smS v qs ++ [(p.1 + p.2) % v] := by simp [smS]
theorem smS_len (v : Nat) (qs : List (Nat × Nat)) : (smS v qs).length = qs.length := by simp [smS]
theorem nod_snoc {l : List Nat} {x : Nat} : (l ++ [x]).Nodup ↔ l.Nodup ∧ x ∉ l := by
  rw [List.nodup_append]
  constructor
  · rintro ⟨h1, _, h3⟩
    exact ⟨h1, fun hx => h3 x hx x (by simp) rfl⟩
  · rintro ⟨h1, h2⟩
    refine ⟨h1, by simp, fun a ha b hb e => ?_⟩
    rw [List.mem_singleton] at hb
    exact h2 (by rw [← hb, ← e]; exact ha)
theorem nod_pre {v : Nat} {qs : List (Nat × Nat)} {i : Nat} (h : Stg v qs) : (0 :: smS v (qs.take i)).Nodup := by
  unfold Stg at h
  have e : smS v qs = smS v (qs.take i) ++ smS v (qs.drop i) := by
    unfold smS
    rw [← List.map_append, List.take_append_drop]
  rw [e, ← List.cons_append] at h
  exact (List.nodup_append.1 h).1
set_option maxRecDepth 100000 in
set_option maxHeartbeats 16000000 in
theorem StrongOf_any (V : Nat) (qs : List (Nat × Nat)) (pv : Value) (w : World) (hv : Rw w pv (prZ qs)) (hS : St V qs) :
    Calls Try.prog 21 #[.int .i64 (V : Int), pv] w fun e w' => (∃ b : Bool, e = .returned (.bool b) ∧ (b = true ↔ Stg V qs)) ∧ Below w.heap.size w w' := by
  have HV : Hid (∀ W, Below w.heap.size w W → Rw W pv (prZ qs)) := fun W b => hv.below b
  have HRG : Hid (∀ (i : Nat) p, qs[i]? = some p → p.1 < V ∧ p.2 < V) := fun i p h => ⟨(hS.rng p (List.mem_of_getElem? h)).1.2, (hS.rng p (List.mem_of_getElem? h)).2.2⟩
  have hV3 := hS.v3
  have hV15 := hS.v15
  have hln := hS.len
  obtain ⟨a, cap, rfl, -⟩ := hv
  obtain ⟨m, Hm⟩ : ∃ m, Hid (qs.length = m) := ⟨_, rfl⟩
  have HAT : Hid (∀ i, i < m → ∃ p, qs[i]? = some p) := fun i hi => ⟨_, List.getElem?_eq_getElem (by rw [Hm.out]; exact hi)⟩
  rw [Hm.out] at hln
  have hm7 : m ≤ 7 := by omega
  rw [prZ_len, Hm.out]
  obtain ⟨i3, ki3, kz0, kz1, kz2⟩ := info3
  have hown0 := own_one0 w 0
  have hb0 := balloc w (.cells #[.int .i64 0] 3)
  have HN : Hid (∀ i, ¬ (0 :: smS V (qs.take i)).Nodup → ¬ Stg V qs) := fun i h k => h (nod_pre k)
  clear hS hln
  go_enter Try.func21, Try.ntmps21
  go_wp2
  go_loopw [5, 6] (fun sv iv wr => ∃ (i k : Nat) (sa : Option Addr) (sc : Nat), iv = .int .i64 (i : Int) ∧ sv = .slice sa k sc ∧ i ≤ m ∧ k ≤ 99 ∧ Hid (k = i + 1) ∧ wr.ownsRow w.heap.size 3 1 (.slice sa k sc) k (nz (0 :: smS V (qs.take i))) ∧ Hid ((0 :: smS V (qs.take i)).Nodup) ∧ Below w.heap.size w wr) (fun _ iv _ => (m - intOf iv).toNat)
  case atStart => exact ⟨0, 1, _, _, rfl, rfl, by omega, by omega, rfl, hown0, (by simp [smS] : ((0 :: smS V (qs.take 0)).Nodup)), hb0⟩
  case round =>
    clear hown0 hb0
    obtain ⟨i, k, sa, sc, rfl, rfl, hi, hk99, Hk, hown, HND, hB⟩ := hrel
    by_cases hlt : i < m
    · have hdi : decide ((i : Int) < (m : Int)) = true := by simp; omega
      have hii : (i : Int) < (m : Int) := by omega
      obtain ⟨p, hpi⟩ := HAT.out i hlt
      obtain ⟨hp1, hp2⟩ := HRG.out i p hpi
      obtain ⟨b, o, g, o1, c1, rfl, hc, hx, hy⟩ := pr_cells (HV.out wr hB) hpi
      have HTK : Hid (qs.take (i + 1) = qs.take i ++ [p]) := by show _ = _; rw [List.take_add_one, hpi]; rfl
      obtain ⟨X, HX⟩ : ∃ X, Hid (p.1 = X) := ⟨_, rfl⟩
      obtain ⟨Y, HY⟩ : ∃ Y, Hid (p.2 = Y) := ⟨_, rfl⟩
      obtain ⟨t, Ht⟩ : ∃ t, Hid (X + Y = t) := ⟨_, rfl⟩
      obtain ⟨s, Hs⟩ : ∃ s, Hid (t % V = s) := ⟨_, rfl⟩
      rw [HX.out] at hx hp1
      rw [HY.out] at hy hp2
      have q1 : (X : Int) + (Y : Int) = (t : Int) := by rw [← Ht.out]; omega
      have r1 : (t : Int) % (V : Int) = (s : Int) := by rw [← Hs.out]; simp
      have r2 : (t : Int).tmod (V : Int) = (s : Int) := by rw [Int.tmod_eq_emod_of_nonneg (by omega)]; exact r1
      have ht99 : t ≤ 99 := by rw [← Ht.out]; omega
      have r3 : (IntKind.i64.wrap ((X : Int) + (Y : Int))).tmod (V : Int) = (s : Int) := by
        rw [show IntKind.i64.wrap ((X : Int) + (Y : Int)) = (t : Int) by rw [IntKind.wrap_i64]; omega]; exact r2
      have hV0 : ¬ V = 0 := by omega
      have HSM : Hid (smS V (qs.take (i + 1)) = smS V (qs.take i) ++ [s]) := by show _ = _; rw [HTK.out, smS_more, HX.out, HY.out, Ht.out, Hs.out]
      have hlen : (0 :: smS V (qs.take i)).length = k := by rw [List.length_cons, smS_len, List.length_take, Hm.out, Hk.out]; omega
      have hSl : Sl wr (.slice sa k sc) ((0 :: smS V (qs.take i)).map Int.ofNat) := Sl.owned (by rw [List.length_map, hlen]; exact hown)
      obtain ⟨f, Hf⟩ : ∃ f, Hid ((0 :: smS V (qs.take i)).contains s = f) := ⟨_, rfl⟩
      have CL := fun (W : World) (bW : Below wr.heap.size wr W) => Lies_any (0 :: smS V (qs.take i)) s f _ W (hSl.below bW) (by rw [hlen]; exact hk99) Hf.out
      clear hSl hpi hlen
      go_wp2
      go_quiet (fail)
      have C := CL (wr.drewN nq) (bdrewN (Below.refl _ wr) nq)
      have hB2 := bdrewN hB nq
      have hown2 : (wr.drewN nq).ownsRow w.heap.size 3 1 (.slice sa k sc) k (nz (0 :: smS V (qs.take i))) := hown
      have hbz2 : w.heap.size ≤ (wr.drewN nq).heap.size := hB.size
      obtain ⟨w5, Hw5⟩ : ∃ w5, Hid (wr.drewN nq = w5) := ⟨_, rfl⟩
      rw [Hw5.out] at C hB2 hown2 hbz2
      clear CL hown hB hc hx hy r3
      cases f with
      | true =>
        have HP : Hid (¬ Stg V qs) := HN.out (i + 1) (by
          rw [HSM.out, ← List.cons_append, nod_snoc]
          exact fun h => h.2 (List.contains_iff_mem.1 Hf.out))
        rw [Hw5.out]
        go_wp2_with (go_at_call 35; refine C.mono ?_; rintro e w6 ⟨rfl, hw⟩; replace hw := hw.symm; subst hw; clear C)
        go_ret
        exact ⟨⟨false, rfl, by simp [HP.out]⟩, hB2⟩
      | false =>
        have HN2 : Hid ((0 :: smS V (qs.take (i + 1))).Nodup) := by
          show List.Nodup _
          rw [HSM.out, ← List.cons_append, nod_snoc]
          refine ⟨HND.out, fun h => ?_⟩
          have := List.contains_iff_mem.2 h
          rw [Hf.out] at this
          cases this
        have HNZ : Hid (nz (0 :: smS V (qs.take (i + 1))) = nz (0 :: smS V (qs.take i)) ++ [.int .i64 (s : Int)]) := by show _ = _; rw [HSM.out, ← List.cons_append, nz_more]
        rw [Hw5.out]
        clear HSM HND HTK
        go_wp2_with (first
          | (go_at_call 35; refine C.mono ?_; rintro e w6 ⟨rfl, hw⟩; replace hw := hw.symm; subst hw; clear C)
          | (at_builtin; refine wpList_append_own _ rfl _ _ 38 rfl w.heap.size 3 i3 (.int .i64 0) 1 8 und22 ki3 kz0 kz1 kz2 rfl (by decide) _ _ _ rfl (hown2.alloc _) ⟨w5.heap.size, 0, none⟩ 1 1 [.int .i64 (s : Int)] rfl rfl ?c1 ?c2 ?c3 ?c4 ?c5 ?_)
          | go_in)
        case c1 =>
          intro j u hj
          match j, hj with
          | 0, hj => simp at hj; subst hj; simp [Addr.add]
        case c2 => intro u hu; simp at hu; subst hu; rfl
        case c3 => unfold maxLen; omega
        case c4 => omega
        case c5 => simp; omega
        · intro v' w7 hown' hgrow _
          have hB7 : Below w.heap.size w w7 := (hB2.alloc hbz2 _).grown hgrow (by simp; omega) (fun k hk => (hown2.lt k hk).1)
          rw [← HNZ.out] at hown'
          obtain ⟨xa, xc, rfl⟩ := own_form hown'
          have Hk2 : Hid (k + 1 = i + 1 + 1) := by show _ = _; rw [Hk.out]
          have hk9 : k + 1 ≤ 99 := by rw [Hk.out]; omega
          clear hown2 hgrow hB2
          go_wp2
          go_roundw
          case rel => exact ⟨i + 1, k + 1, xa, xc, by go_num, rfl, by omega, hk9, Hk2, hown', HN2, hB7⟩
          case measure => simp [intOf]; omega
    · have hdi : decide ((i : Int) < (m : Int)) = false := by simp; omega
      have hdin : decide (i < m) = false := by simp; omega
      have HY : Hid (Stg V qs) := by
        have := HND.out
        rw [List.take_of_length_le (by rw [Hm.out]; omega)] at this
        exact this
      go_wp2
      go_ret
      exact ⟨⟨true, rfl, by simp [HY.out]⟩, hB⟩
end Go.Proofs.Ytpeplnojmogkfaa
