/- The walk of Colourings. -/
import Derived.Test.YtgpkhfpejopacabGreatDoorZC8
import Derived.Test.YtgpkhfpejopacabGreatDoorZP30
import Derived.Test.YtgpkhfpejopacabGreatDoorZP28
import Derived.Test.YtgpkhfpejopacabGreatDoorZG41
import Derived.Test.YtgpkhfpejopacabGreatDoorZCSum
/- The walk of kinds' cycles. -/
namespace Go.Proofs.YtgpkhfpejopacabGreatDoor.Gc
open Go.RowKit Go.Maps

set_option maxRecDepth 100000 in
theorem kinds_below {w w' : World} {B n : Nat} {D : DataW Unit} (h : w.ownsMap Tryz.prog 136 (plainElem Tryz.prog 3) B n D) (hb : Below w.heap.size w w') : w'.ownsMap Tryz.prog 136 (plainElem Tryz.prog 3) B n D := h.kept (grown_of_below hb) (by simp)
end Go.Proofs.YtgpkhfpejopacabGreatDoor.Gc

/- The walks of rings, Beads, Bracelets, BeadsOf, BraceletsOf. -/
namespace Go.Proofs.YtgpkhfpejopacabGreatDoor.Gc
open Go.RowKit Go.Maps

end Go.Proofs.YtgpkhfpejopacabGreatDoor.Gc

/- 'm[k]++' at a map of kinds, whichever is done first: the look-up, or the entry. -/
namespace Go.Proofs.YtgpkhfpejopacabGreatDoor.Gc
open Go.RowKit Go.Maps Go.ChangeMaps Go.WideElems Go.MapKept

set_option maxRecDepth 100000 in
theorem zero3' (u : World) : (zeroValue 3).run Tryz.prog u = .ok (.int .i64 0) u := by kernel_rfl
set_option maxRecDepth 100000 in
theorem entry_any {w : World} {b n : Nat} {D : DataW Unit} (hown : w.ownsMap Tryz.prog 136 (plainElem Tryz.prog 3) b n D) (hn : n < maxLen) {key : Value} {kl : Lit} (hkey : keyOf Tryz.prog 136 key = some kl) :
    ∃ (c : Int) (v0 : Value) (st : Nat) (w1 : World), D.atKey kl (.lit (.int .i64 0)) = .lit (.int .i64 c) ∧ (Instr.lookup 89 (.map (some b)) key false).run Tryz.prog w = .ok (.int .i64 c) w ∧
      (Instr.mapEntry 89 (.map (some b)) key).run Tryz.prog w = .ok (.tuple #[v0, goInt st]) w1 ∧ (Instr.lookup 89 (.map (some b)) key false).run Tryz.prog w1 = .ok (.int .i64 c) w1 ∧ w.grownBy w1 (some b) ∧ w1.heap.size = w.heap.size ∧
      ∀ val : Int, (Lit.int .i64 val).wf = true → ∃ w2, (Instr.entryStore 89 (.map (some b)) (goInt st) (.int .i64 val)).run Tryz.prog w1 = .ok () w2 ∧ w2.ownsMap Tryz.prog 136 (plainElem Tryz.prog 3) b (n + 1) (D.put kl (.lit (.int .i64 val))) ∧ w.grownBy w2 (some b) := by
  obtain ⟨c, hlook, hat, hwc⟩ := hown.lookup_int keyed75 und52k und3 (zero3' w) hkey
  obtain ⟨es, clock, hb, F, hs, hD⟩ := id hown
  obtain ⟨v0, st, es1, clock1, hrun, _, hst⟩ := entry_then_store keyLaw75 und52k zero3' hb F hkey
  have hgrow : ∀ o, w.grownBy (setBlock w b o) (some b) := fun o => ⟨rfl, rfl, rfl, by simp [setBlock], fun i _ hi => heap_setBlock_other hb _ (fun e => hi (by rw [e]))⟩
  have hsame := heap_setBlock_same hb (.map es1 clock1)
  -- the look-up behind the entry
  have hlook2 : (Instr.lookup 89 (.map (some b)) key false).run Tryz.prog (setBlock w b (.map es1 clock1)) = .ok (.int .i64 c) (setBlock w b (.map es1 clock1)) := by
    rcases keyLaw75.find w hkey es.toList F.keys with ⟨h1, h2⟩ | ⟨j, e0, h1, h2, h3⟩
    · have hr : (Instr.mapEntry 89 (.map (some b)) key).run Tryz.prog w = .ok (.tuple #[.int .i64 0, goInt clock]) (setBlock w b (.map (es.push ⟨key, .int .i64 0, clock⟩) (clock + 1))) := by
        simp [Instr.mapEntry, run_underlying und52k, MapKept.run_getObj_map hb, keyLaw75.check w false hkey, h1, MapKept.run_setObj_map _ hb, Result.andThen, setBlock]
      have hu : (Instr.mapUpdate 89 (.map (some b)) key (.int .i64 0)).run Tryz.prog w = .ok () (setBlock w b (.map (es.push ⟨key, .int .i64 0, clock⟩) (clock + 1))) := by
        simp [Instr.mapUpdate, run_underlying und52k, MapKept.run_getObj_map hb, keyLaw75.check w false hkey, h1, MapKept.run_setObj_map _ hb, Result.andThen, setBlock]
      rw [hrun] at hr
      have ew := (Result.ok.inj hr).2
      rw [ew]
      obtain ⟨w', hu', hown', _⟩ := hown.update keyed75 und52k hn hkey (plainElem_int (H := Unit) und3 (a := 0) (by decide))
      rw [hu] at hu'
      have ew' := (Result.ok.inj hu').2
      rw [← ew'] at hown'
      obtain ⟨c', hl', hat', _⟩ := hown'.lookup_int keyed75 und52k und3 (zero3' _) hkey
      rw [atKey_put_same hown.isMap (keyed75.key hkey)] at hat'
      have hc' : c' = 0 := by
        simp only [DataW.lit.injEq, Lit.int.injEq, true_and] at hat'
        exact hat'.symm
      have hc0 : c = 0 := by
        rcases Maps.fit_look false keyed75 und52k (zero3' w) hb F hkey with ⟨hl0, _, _⟩ | ⟨e0, y, he, hk, _⟩
        · rw [hlook] at hl0
          have := (Result.ok.inj hl0).1
          simpa using this
        · exact absurd hk (h2 e0 he)
      rw [hl', hc', hc0]
    · have hj : es[j]? = some e0 := by simpa using h2
      have hsm : es.modify j (fun e => { e with key := key }) = es := by
        apply Array.ext'
        rw [Array.toList_modify, modify_eq_set _ _ _ _ h2]
        have : ({ e0 with key := key } : MapEntry) = e0 := by rw [← h3]
        rw [this]
        exact set_self _ _ _ h2
      have hr : (Instr.mapEntry 89 (.map (some b)) key).run Tryz.prog w = .ok (.tuple #[e0.val, goInt e0.born]) (setBlock w b (.map es clock)) := by
        simp [Instr.mapEntry, run_underlying und52k, MapKept.run_getObj_map hb, keyLaw75.check w false hkey, h1, hj, h3, keyLaw75.stays w hkey, hsm, MapKept.run_setObj_map _ hb, Result.andThen, setBlock]
      rw [hrun] at hr
      have ew := (Result.ok.inj hr).2
      rw [ew]
      have hown' : (setBlock w b (.map es clock)).ownsMap Tryz.prog 136 (plainElem Tryz.prog 3) b n D := ⟨es, clock, heap_setBlock_same hb _, F, hs, hD⟩
      obtain ⟨c', hl', hat', _⟩ := hown'.lookup_int keyed75 und52k und3 (zero3' _) hkey
      rw [hat] at hat'
      have hc' : c = c' := by
        simp only [DataW.lit.injEq, Lit.int.injEq, true_and] at hat'
        exact hat'
      rw [hl', hc']
  refine ⟨c, v0, st, _, hat, hlook, hrun, hlook2, hgrow _, by simp [setBlock], fun val hval => ?_⟩
  obtain ⟨es', clock', hr1, hr2⟩ := hst _ (.int .i64 val) hsame
  obtain ⟨w', hu', hown', _⟩ := hown.update keyed75 und52k hn hkey (plainElem_int (H := Unit) und3 hval)
  rw [hr2] at hu'
  have ew' := (Result.ok.inj hu').2
  rw [← ew'] at hown'
  have hss : setBlock (setBlock w b (.map es1 clock1)) b (.map es' clock') = setBlock w b (.map es' clock') := by simp [setBlock]
  rw [hss] at hr1
  exact ⟨_, hr1, hown', hgrow _⟩

end Go.Proofs.YtgpkhfpejopacabGreatDoor.Gc

/- The walk of Kind. -/
namespace Go.Proofs.YtgpkhfpejopacabGreatDoor.Gc
open Go.RowKit Go.Maps Go.Shelf

set_option maxRecDepth 100000 in
theorem sizeOf3k (w : World) : (Go.sizeOf 3).run Tryz.prog w = .ok 1 w := by kernel_rfl
/-- The kind as Kind answers it: as many numbers as there are points. -/
noncomputable def kdI (n : Nat) (a : List Nat) : List Int := (List.range n).map fun j => ((lens n (fnL a)).count (j + 1) : Int)
theorem kdI_len (n : Nat) (a : List Nat) : (kdI n a).length = n := by simp [kdI]
theorem kdI_at {n : Nat} {a : List Nat} {j : Nat} (hj : j < n) : (kdI n a).getD j 0 = ((lens n (fnL a)).count (j + 1) : Int) := by simp [kdI, hj]

set_option maxRecDepth 100000 in
theorem cut96 (n : Nat) (h1 : 1 ≤ n) (hn : n ≤ 7) (g : Nat) (W : World) : (Instr.sliceAt 101 (.pointer (some ⟨g, 0, none⟩)) (some (.int .i64 1)) (some (.int .i64 ((n : Int) + 1))) none).run Tryz.prog W = .ok (.slice (some ⟨g, 1, none⟩) n 12) W := by
  rcases (show n = 1 ∨ n = 2 ∨ n = 3 ∨ n = 4 ∨ n = 5 ∨ n = 6 ∨ n = 7 by omega) with rfl | rfl | rfl | rfl | rfl | rfl | rfl <;> (change _ = _; kernel_rfl)
set_option maxRecDepth 100000 in
set_option maxHeartbeats 1000000 in
theorem Kind_any (n : Nat) (a : List Nat) (v : Value) (w : World) (hv : Sl w v (a.map Int.ofNat)) (ha : IsP n a) (h1 : 1 ≤ n) (hn : n ≤ 7) :
    Calls Tryz.prog 89 #[v] w fun e w' => (∃ y, e = .returned (.tuple #[y, .int .i64 0]) ∧ Sl w' y (kdI n a)) ∧ Below w.heap.size w w' := by
  have P : Pm n (fnL a) := ha.pm
  have hvp : Sl w v (pl n (fnL a)) := by unfold fnL; rw [pl_map ha.len]; exact hv
  have C1 := Check_any (pl n (fnL a)) v w hvp (by rw [pl_len]; unfold maxLen; omega)
  rw [pF_pl P (by omega)] at C1
  have C2 := fun W (h : Below w.heap.size w W) => kindOf_any n (fnL a) v W (by omega) (hvp.below h) P
  obtain ⟨i3, ti, tz0, tz1, tz2⟩ := info3
  obtain ⟨F, HF⟩ : ∃ F : Nat → Int, Hid ((fun L => ((lens n (fnL a)).count L : Int)) = F) := ⟨_, rfl⟩
  rw [HF.out] at C2
  have hFx : ∀ j, F j = ((lens n (fnL a)).count j : Int) := fun j => by rw [← HF.out]
  have hkd : (kdI n a).map (Value.int .i64) = (List.range n).map fun j => Value.int .i64 (F (j + 1)) := by
    unfold kdI
    rw [List.map_map]
    exact List.map_congr_left fun j _ => by simp [hFx]
  have C3 : ∀ (W : World) (g : Nat), KRow W g F → Calls Tryz.prog 92 #[.slice (some ⟨g, 1, none⟩) n 12] W fun e w' => (∃ y, e = .returned y ∧ Sl w' y (kdI n a)) ∧ Below W.heap.size W w' := by
    intro W g hk
    have hcl : ∀ j u, ((kdI n a).map (Value.int .i64))[j]? = some u → W.cell? ⟨g, 1 + j, none⟩ = some u := by
      intro j u hu
      have hj : j < n := by have := (List.getElem?_eq_some_iff.1 hu).1; rwa [List.length_map, kdI_len] at this
      rw [hk.cell (1 + j) (by omega)]
      rw [hkd] at hu
      simp [hj] at hu
      rw [← hu, Nat.add_comm]
    have C := AnyE.slices_Clone cloneInt i3 (.int .i64 0) 1 8 ti tz0 tz1 tz2 (by simp [Value.cells]) (by omega) sizeOf3k g 1 n 12 ((kdI n a).map (Value.int .i64)) W (by rw [List.length_map, kdI_len, Nat.mul_one]) (by unfold maxLen; omega) (by omega) hcl (fun u hu => by
      obtain ⟨x, _, rfl⟩ := List.mem_map.1 hu
      rfl)
    change Calls Tryz.prog 92 _ _ _ at C
    exact C.mono (fun e w' ⟨v', e1, e2, _, e4⟩ => ⟨⟨v', e1, Sl.owned (by rw [kdI_len]; exact e2)⟩, e4⟩)
  obtain ⟨aa, cap, ev, _⟩ := id hv
  have hal : (a.map Int.ofNat).length = n := by rw [List.length_map, ha.len]
  rw [hal] at ev
  subst ev
  have hn0 : (0 : Int) ≤ (n : Int) := by omega
  have hn7 : (n : Int) ≤ 7 := by omega
  have hcut := cut96 n h1 hn
  clear hFx hkd hvp hv hal P ha ti tz0 tz1 tz2
  go_enter Tryz.func89, Tryz.ntmps89
  go_wp2_with (first
    | (go_at_call 52; refine C1.mono ?_; rintro e w1 ⟨rfl, b1⟩)
    | (go_at_call 54; refine (C2 _ b1).mono ?_; rintro e w2 ⟨rfl, b2⟩; have hk0 := KRow.made w2 (fun _ => 0); have hk1 := hk0.whole F; have hB1 : Below w2.heap.size w2 ((w2.alloc (.cells (krow fun _ => 0) 101)).setRow w2.heap.size (krow F)) := bsetRow (balloc w2 _) (Nat.le_refl _) _
       have b3 := Below.next (Below.next b1 b2) hB1)
    | (refine wpList_store_row rfl 101 _ _ rfl w2.heap.size _ rfl rfl 101 _ hk0 (inf46 _) (by simp) (krow_one _) ?_)
    | (go_at_call 92; refine (C3 _ _ hk1).mono ?_; rintro e w3 ⟨⟨y, rfl, hy⟩, b4⟩))
  go_ret2
  exact ⟨⟨y, rfl, hy⟩, Below.next b3 b4⟩

end Go.Proofs.YtgpkhfpejopacabGreatDoor.Gc

/- The walk of All. -/
namespace Go.Proofs.YtgpkhfpejopacabGreatDoor.Gc
open Go.RowKit Go.Shelf

set_option maxRecDepth 100000 in
set_option maxHeartbeats 1000000 in
theorem list_row (n : Nat) (a : List Nat) (w : World) (h1 : 1 ≤ n) (hn : n ≤ 7) (ha : a.length = n) :
    Calls Tryz.prog 51 #[mv (ext n a), .int .i64 (n : Int)] w fun e w' => (∃ g cap, e = .returned (.slice (some ⟨g, 0, none⟩) n cap) ∧ w.heap.size ≤ g ∧ Own w' g n (fun j => (a.getD j 0 : Int))) ∧ Below w.heap.size w w' := by
  obtain ⟨i3, ti, tz0, tz1, tz2⟩ := info3
  have hk0 := MRow.made 95 w (fun j => ((ext n a).getD j 0 : Int))
  have hB0 := balloc w (.cells (mrow fun j => ((ext n a).getD j 0 : Int)) 95)
  have hnews : ∀ j u, (vl a)[j]? = some u → (w.alloc (.cells (mrow fun j => ((ext n a).getD j 0 : Int)) 95)).cell? ⟨w.heap.size, 0 + j, none⟩ = some u := fun j u hu => by
    have hj : j < n := by have := (List.getElem?_eq_some_iff.1 hu).1; simp [vl] at this; omega
    rw [Nat.zero_add, hk0.cell j (by omega), ext_lo hn a hj]
    have hj' : j < a.length := by omega
    simp [vl, hj'] at hu ⊢
    exact hu
  have C := AnyE.slices_Clone cloneInt i3 (.int .i64 0) 1 8 ti tz0 tz1 tz2 (by simp [Value.cells]) (by omega) sizeOf3' w.heap.size 0 n 7 (vl a) _ (by simp [vl, ha]) (by unfold maxLen; omega) (by omega) hnews (fun u hu => by
    simp only [vl, List.mem_map] at hu
    obtain ⟨x, _, rfl⟩ := hu
    rfl)
  change Calls Tryz.prog 92 _ _ _ at C
  have C' := C.mono (R' := fun e w' => (∃ g cap, e = .returned (.slice (some ⟨g, 0, none⟩) n cap) ∧ w.heap.size ≤ g ∧ Own w' g n (fun j => (a.getD j 0 : Int))) ∧ Below w.heap.size w w') (fun e w' ⟨v', e1, e2, _, e4⟩ => by
    obtain ⟨g, cap, rfl, hg, hO⟩ := Own.of (l := a.map Int.ofNat) e2 h1
    refine ⟨⟨g, cap, e1, by rw [World.size_alloc] at hg; omega, hO.congr fun j hj => ?_⟩, Below.next hB0 e4⟩
    have hj' : j < a.length := by omega
    simp [hj'])
  clear C hnews ti tz0 tz1 tz2
  unfold mv
  obtain ⟨F, HF⟩ : ∃ F : Nat → Int, Hid ((fun j => ((ext n a).getD j 0 : Int)) = F) := ⟨_, rfl⟩
  rw [HF.out] at C' hk0 hB0 ⊢
  have hn0 : (0 : Int) ≤ (n : Int) := by omega
  have hn7 : (n : Int) ≤ 7 := by omega
  go_enter Tryz.func51, Tryz.ntmps51
  go_wp2_with (first
    | (go_at_call 92; refine C'.mono ?_; rintro e w1 ⟨⟨g, cap, rfl, hg, hO⟩, b1⟩))
  go_ret
  exact ⟨⟨g, cap, rfl, hg, hO⟩, b1⟩

theorem CycR.low {w : World} {base b0 : Nat} {v : Value} {ls : List (List Nat)} (h : CycR w base v ls) (hb : b0 ≤ base) : CycR w b0 v ls := by
  obtain ⟨vals, h1, h2⟩ := h
  refine ⟨vals, ?_, fun i u l hu hl => ?_⟩
  · obtain ⟨h3, h4 | ⟨g, cap, cur, h5, h6, h7⟩⟩ := h1
    · exact ⟨h3, .inl h4⟩
    · exact ⟨h3, .inr ⟨g, cap, cur, h5, by omega, h7⟩⟩
  · obtain ⟨g, cap, rfl, hg, hO⟩ := h2 i u l hu hl
    exact ⟨g, cap, rfl, by omega, hO⟩
theorem ext_back {n : Nat} (hn : n ≤ 7) {a : List Nat} (ha : a.length = n) : ((List.range n).map fun j => (ext n a).getD j 0) = a := by
  refine ext_getD (by simp) ha fun y hy => ?_
  have := ext_lo hn a hy
  simp [hy] at this ⊢
  exact this
theorem ext_perm {n : Nat} (hn : n ≤ 7) {A L : List (List Nat)} (hA : ∀ a ∈ A, a.length = n) (hL : ∀ a ∈ L, a.length = n) (h : (A.map (ext n)).Perm (L.map (ext n))) : A.Perm L := by
  have h2 := h.map fun x => (List.range n).map fun j => x.getD j 0
  rw [List.map_map, List.map_map] at h2
  have key : ∀ X : List (List Nat), (∀ a ∈ X, a.length = n) → X.map ((fun x => (List.range n).map fun j => x.getD j 0) ∘ ext n) = X := by
    intro X hX
    have : X.map ((fun x => (List.range n).map fun j => x.getD j 0) ∘ ext n) = X.map id := List.map_congr_left fun a ha => ext_back hn (hX a ha)
    rw [this, List.map_id]
  rw [key A hA, key L hL] at h2
  exact h2
/-- What All answers: rows of one's own. -/
def AllAns (w : World) (n : Nat) (ms : List (List Nat)) (e : Ending) (w' : World) : Prop :=
  ∃ (y : Value) (L : List (List Nat)), e = .returned (.tuple #[y, .int .i64 0]) ∧ CycR w' w.heap.size y L ∧ L.Perm (els n (Gen n ms)) ∧ Below w.heap.size w w'

set_option maxRecDepth 100000 in
set_option maxHeartbeats 4000000 in
theorem All_any (n : Nat) (ms : List (List Nat)) (v : Value) (w : World) (h : Mk n ms v w) :
    Calls Tryz.prog 88 #[.int .i64 (n : Int), v] w fun e w' => AllAns w n ms e w' := by
  obtain ⟨i22, hi', hz0', hz1', hz2'⟩ := info22
  have hn1 := h.n1
  have hn7 := h.n7
  have C0 := h.check
  have C1 := fun W (b : Below w.heap.size w W) => (h.below b).moves
  have C2 := fun W (b : Below w.heap.size w W) => (h.below b).made
  have HISP : Hid (∀ m ∈ ms, IsP n m) := h.isP
  have C3 := fun (G : Nat) (L : List (List Nat)) (base : Nat) (W : World) (hM : Mem base W G (L.map (ext n))) (h0 : 0 < (L.map (ext n)).length) (h6 : (L.map (ext n)).length ≤ 6000) => inOrder_any base G (L.map (ext n)) W hM h0 h6
  clear h
  go_enter Tryz.func88, Tryz.ntmps88
  go_wp2_with (first
    | (go_at_call 40; refine C0.mono ?_; rintro e w1 ⟨rfl, b1⟩)
    | (go_at_call 42; refine (C1 _ b1).mono ?_; rintro e w2 ⟨⟨x, rfl, hx⟩, b2⟩; have b2' := Below.next b1 b2)
    | (go_at_call 48; refine (C2 _ b1 x _ hx).mono ?_; rintro e w3 ⟨⟨G, L, rfl, hM, hnd, hgen⟩, b3⟩; have b3' := Below.next b2' b3
       have hpE := gen_perm HISP.out hnd hgen
       have hlo := gen_bound HISP.out hn7 hnd hgen
       have HG : Hid (L.Perm (els n (Gen n ms))) := hpE
       have h0L : 0 < L.length := List.length_pos_of_mem ((hgen _).2 Gen.one)
       have h6L : L.length ≤ 6000 := by have := hlo.2; omega
       clear hgen hnd hpE hlo)
    | (go_at_call 50; refine (C3 G L _ _ hM (by rw [List.length_map]; exact h0L) (by rw [List.length_map]; exact h6L)).mono ?_; rintro e w4 ⟨⟨y, M', rfl, hMv, hp, _⟩, b4⟩; have b4' := Below.next b3' b4
       have hMl : M'.length = L.length := by rw [hp.length_eq, List.length_map]
       obtain ⟨ya, yc, ey⟩ := hMv.form
       rw [hMl] at ey
       subst ey))
  obtain ⟨r, Hr⟩ : ∃ r, Hid (L.length = r) := ⟨_, rfl⟩
  rw [Hr.out] at h6L h0L hMl hMv ⊢
  have HMV : Hid (Mvs w4 (.slice ya r yc) M') := hMv
  have HP : Hid (M'.Perm (L.map (ext n))) := hp
  have HB4 : Hid (Below w.heap.size w w4) := b4'
  have hw4 : w.heap.size ≤ w4.heap.size := b4'.size
  clear hMv hp b1 b2 b3 b4 b2' b3' b4' hM hx C0 C1 C2 C3
  go_loopw [7, 21] (fun o i wr => ∃ (k : Nat) (A : List (List Nat)), i = .int .i64 (k : Int) ∧ k ≤ r ∧ CycR wr w4.heap.size o A ∧ Hid (A.length = k ∧ A.map (ext n) = M'.take k ∧ ∀ a ∈ A, a.length = n) ∧ Below w4.heap.size w4 wr) (fun _ i _ => (r - intOf i).toNat)
  case atStart => exact ⟨0, [], rfl, by omega, CycR.nil _ _, ⟨rfl, by simp, by simp⟩, Below.refl _ _⟩
  case round =>
    obtain ⟨k, A, rfl, hk, hR, HA, hB⟩ := hrel
    by_cases hlt : k < r
    · have hki : (k : Int) < r := by omega
      have hdec : decide ((k : Int) < r) = true := by simp; omega
      obtain ⟨m, hm⟩ : ∃ m, M'[k]? = some m := ⟨M'[k]'(by omega), by simp⟩
      obtain ⟨a, haL, rfl⟩ : ∃ a, a ∈ L ∧ ext n a = m := by
        obtain ⟨a, h1, h2⟩ := List.mem_map.1 (HP.out.mem_iff.1 (List.mem_of_getElem? hm))
        exact ⟨a, h1, h2⟩
      have hal : a.length = n := (mem_els.1 (HG.out.mem_iff.1 haL)).1.len
      have HTK : Hid (M'.take (k + 1) = M'.take k ++ [ext n a]) := by show _ = _; rw [List.take_add_one, hm]; rfl
      obtain ⟨b, off, hya, hbl, hrM0⟩ := HMV.out.at hm
      subst hya
      have hrM := range_below hrM0 hB hbl
      have C := fun W => list_row n a W hn1 hn7 hal
      rw [mv_eq] at C
      have hinM : (Tryz.prog.info? 95).map (·.size) = some (mvL (ext n a)).length := inf62L _
      have hlM : (mvL (ext n a)).length = 7 := mvL_len _
      have h1M : ∀ u ∈ mvL (ext n a), u.oneCell' = true := mvL_one _
      obtain ⟨M, HM⟩ : ∃ M, Hid (mvL (ext n a) = M) := ⟨_, rfl⟩
      rw [HM.out] at hinM hrM hlM h1M C
      have honeM := all_oneCell_toArray h1M
      have hinM' : (Tryz.prog.info? 95).map (·.size) = some M.toArray.size := by simpa using hinM
      have hthM : (wr.alloc (.cells #[.int .i64 0, .int .i64 0, .int .i64 0, .int .i64 0, .int .i64 0, .int .i64 0, .int .i64 0] 95)).there wr.heap.size 0 M.toArray.size := by
        intro q hq
        rw [Nat.zero_add, cell_of_row _ _ q _ _ _ (heap_alloc_new wr _), frozen_of_row _ _ q _ _ (heap_alloc_new wr _)]
        have hq7 : q < 7 := by simpa [hlM] using hq
        exact ⟨by simp [hq7], rfl⟩
      have hBM : Below wr.heap.size wr ((wr.alloc (.cells #[.int .i64 0, .int .i64 0, .int .i64 0, .int .i64 0, .int .i64 0, .int .i64 0, .int .i64 0] 95)).setCells wr.heap.size 0 M) := (balloc wr (.cells #[.int .i64 0, .int .i64 0, .int .i64 0, .int .i64 0, .int .i64 0, .int .i64 0, .int .i64 0] 95)).trans (bsets (Nat.le_refl _) _ _ _)
      have hrM2 : ((wr.alloc (.cells #[.int .i64 0, .int .i64 0, .int .i64 0, .int .i64 0, .int .i64 0, .int .i64 0, .int .i64 0] 95)).setCells wr.heap.size 0 M).rangeAt wr.heap.size 0 M := World.rangeAt_setCells_same _ _ _ _ (by simpa using hthM)
      obtain ⟨W, HW⟩ : ∃ W, Hid ((wr.alloc (.cells #[.int .i64 0, .int .i64 0, .int .i64 0, .int .i64 0, .int .i64 0, .int .i64 0, .int .i64 0] 95)).setCells wr.heap.size 0 M = W) := ⟨_, rfl⟩
      rw [HW.out] at hBM hrM2
      obtain ⟨vals, hv1, hv2⟩ := hR
      have hAl := HA.out.1
      rw [hAl] at hv1
      have hsz := hB.size
      clear hrM0 hm haL
      go_wp2_with (first
        | (refine wpList_load_mid rfl 95 _ rfl b (off + k * 7) rfl M _ hrM und62 rfl hinM ?_)
        | (refine wpList_store_mid rfl 95 _ _ rfl wr.heap.size 0 M.toArray rfl rfl hthM hinM' honeM ?_; rw [show M.toArray.toList = M from rfl, HW.out])
        | (refine wpList_load_mid rfl 95 _ rfl wr.heap.size 0 rfl M _ hrM2 und62 rfl hinM ?_)
        | (go_at_call 51; refine (C _).mono ?_; rintro e w5 ⟨⟨g, cap, rfl, hg, hO⟩, b5⟩; have b5' := Below.next hBM b5; have hk5 : Kp 0 wr w5 := Kp.below b5'; have hv5 := own_below hv1 b5'; have hs5 := b5'.size)
        | (at_builtin; refine wpList_append_own _ rfl _ _ 22 rfl w4.heap.size 29 i22 (.slice none 0 0) 1 24 und54 hi' hz0' hz1' hz2' rfl (by decide) _ _ _ rfl (hv5.alloc _) ⟨w5.heap.size, 0, none⟩ 1 1 [.slice (some ⟨g, 0, none⟩) n cap] rfl rfl ?c1 ?c2 ?c3 ?c4 ?c5 ?_)
        | go_in)
      case c1 =>
        intro j u hj
        match j, hj with
        | 0, hj => simp at hj; subst hj; simp [Addr.add]
      case c2 => intro u hu; simp at hu; subst hu; rfl
      case c3 => unfold maxLen; omega
      case c4 => omega
      case c5 => simp; omega
      intro v' w8 hown8 hgrow8 _
      have hU8 : Below w4.heap.size w5 w8 := ((Below.refl _ _).alloc (by omega) _).grown hgrow8 (by simp; omega) (fun k hk => (hv5.lt k hk).1)
      have hB8 : Below w4.heap.size w4 w8 := (hB.trans (b5'.mono hsz)).trans hU8
      have hka : Kp 0 w5 (w5.alloc (.cells #[.slice (some ⟨g, 0, none⟩) n cap] 29)) := Kp.below (balloc w5 _)
      have hsM := hBM.size
      have hrow : RowIs (w5.alloc (.cells #[.slice (some ⟨g, 0, none⟩) n cap] 29)) w4.heap.size (.slice (some ⟨g, 0, none⟩) n cap) a := ⟨g, cap, by rw [hal], by omega, by rw [hal]; exact hO.below (balloc w5 _)⟩
      have hR8 := CycR.more (l := a) (ls := A) (by rw [hAl]; exact hv5.alloc _) (fun i u l h1 h2 => ((hv2 i u l h1 h2).kp hk5 (by omega)).kp hka (by omega)) hrow (by rw [hAl]; exact hown8) hgrow8
      clear hka hrow hown8 hgrow8 hU8 hv5 hO b5 b5' hk5 hv1 hv2 hBM hrM2 hrM
      go_wp2
      go_roundw
      case rel =>
        refine ⟨k + 1, A ++ [a], by go_num, by omega, hR8, ⟨by rw [List.length_append, hAl]; rfl, ?_, fun x hx => ?_⟩, hB8⟩
        · rw [List.map_append, HA.out.2.1, HTK.out]; rfl
        · rcases List.mem_append.1 hx with h | h
          · exact HA.out.2.2 x h
          · rw [List.mem_singleton.1 h]; exact hal
      case measure => simp [intOf]; omega
    · have hdec : decide ((k : Int) < r) = false := by simp; omega
      obtain rfl : k = r := by omega
      go_wp2
      go_ret2
      refine ⟨_, A, rfl, hR.low hw4, ?_, HB4.out.trans (hB.mono hw4)⟩
      refine (ext_perm hn7 HA.out.2.2 (fun a ha => (mem_els.1 (HG.out.mem_iff.1 ha)).1.len) ?_).trans HG.out
      rw [HA.out.2.1, List.take_of_length_le (by omega)]
      exact HP.out

end Go.Proofs.YtgpkhfpejopacabGreatDoor.Gc

/- The walk of kindsOf. -/
namespace Go.Proofs.YtgpkhfpejopacabGreatDoor.Gc
open Go.RowKit Go.Maps

/-- What kindsOf answers: a map of the kinds of all members. -/
def KindsAns (w : World) (n : Nat) (ms : List (List Nat)) (e : Ending) (w' : World) : Prop :=
  ∃ (B m : Nat) (D : DataW Unit) (L : List (List Nat)), e = .returned (.map (some B)) ∧ w.heap.size ≤ B ∧ m ≤ 5040 ∧ w'.ownsMap Tryz.prog 136 (plainElem Tryz.prog 3) B m D ∧ KindsIs D L ∧ L.Perm ((els n (Gen n ms)).map (kd n)) ∧ Below w.heap.size w w'
theorem kd_sm {n : Nat} (a : List Nat) (hn : n ≤ 7) : SmK (kd n a) := ⟨kd_len n a, kd_small hn⟩
theorem splice_kd {n : Nat} {a : List Nat} (ha : IsP n a) (hn : n ≤ 7) :
    (splice ((List.range 7).map fun _ => Value.int .i64 (0 : Int)) 0 ((kdI n a).map (Value.int .i64))).toArray = (mvL (kd n a)).toArray := by
  apply Array.ext_getElem?
  intro j
  have hl : ((kdI n a).map (Value.int .i64)).length = n := by rw [List.length_map, kdI_len]
  by_cases hj : j < 7
  · have e2 : (mvL (kd n a)).toArray[j]? = some (.int .i64 ((lens n (fnL a)).count (j + 1) : Int)) := by
      simp only [mvL, List.getElem?_toArray]
      rw [List.getElem?_map, List.getElem?_range hj, Option.map_some, kd_at hj]
    rw [e2]
    simp only [splice, List.take_zero, List.nil_append, List.getElem?_toArray, Nat.zero_add, hl]
    by_cases hjk : j < n
    · rw [List.getElem?_append_left (by rw [hl]; exact hjk)]
      have hjl : j < (kdI n a).length := by rw [kdI_len]; exact hjk
      have := kdI_at (a := a) hjk
      simp [hjl] at this ⊢
      exact this
    · rw [List.getElem?_append_right (by rw [hl]; omega), hl]
      have hz : (lens n (fnL a)).count (j + 1) = 0 := List.count_eq_zero.2 fun h => by
        have := (ha.pm : Pm n (fnL a)).lens_mem h
        omega
      rw [hz]
      simp [show n + (j - n) = j by omega, hj]
  · rw [Array.getElem?_eq_none (by simp [splice, kdI_len]; omega), Array.getElem?_eq_none (by simp; omega)]

set_option maxRecDepth 100000 in
set_option maxHeartbeats 8000000 in
theorem kindsOf_any (n : Nat) (ms : List (List Nat)) (v : Value) (w : World) (h : Mk n ms v w) :
    Calls Tryz.prog 45 #[.int .i64 (n : Int), v] w fun e w' => KindsAns w n ms e w' := by
  have hmm := @run_makeMap Tryz.prog
  have hn1 := h.n1
  have hn7 := h.n7
  have HISP : Hid (∀ m ∈ ms, IsP n m) := h.isP
  have C0 := All_any n ms v w h
  clear h
  go_enter Tryz.func45, Tryz.ntmps45
  go_wp2_with (first
    | (go_at_call 88; refine C0.mono ?_; rintro e w1 ⟨y, A, rfl, hR, hp, b1⟩
       obtain ⟨vals, hv1, hv2⟩ := hR
       have hbd := gen_bound HISP.out hn7 (els_nodup n (Gen n ms)) (fun a => (gen_grp HISP.out).mem)
       have hAl : A.length = (els n (Gen n ms)).length := hp.length_eq
       obtain ⟨r, Hr⟩ : ∃ r, Hid (A.length = r) := ⟨_, rfl⟩
       have hr0 : 0 < r := by rw [← Hr.out]; omega
       have hr6 : r ≤ 5040 := by rw [← Hr.out]; omega
       rw [Hr.out] at hv1
       obtain ⟨g, cap, cur, ey, hgb, hgw, hcells⟩ : ∃ g cap cur, y = .slice (some ⟨g, 0, none⟩) r cap ∧ w.heap.size ≤ g ∧ w1.heap[g]? = some (.cells cur 29 (0, 0)) ∧ ∀ (j : Nat) (u : Value), vals[j]? = some u → w1.cell? ⟨g, 0 + j, none⟩ = some u := by
         obtain ⟨hvl, ⟨_, e0⟩ | ⟨g, cap, cur, e5, e6, e7, e8, e9, e10, ht⟩⟩ := id hv1
         · omega
         · refine ⟨g, cap, cur, e5, e6, e7, fun j u hu => ?_⟩
           have h := hv1.cells (g := g) (by rw [e5]; rfl) j u hu
           rw [Addr.add_mid] at h; exact h
       subst ey
       have hvl : vals.length = r := by have := hv1.1; omega
       have HROW : Hid (∀ (i : Nat) (u : Value) (l : List Nat), vals[i]? = some u → A[i]? = some l → RowIs w1 w.heap.size u l) := hv2
       have HP : Hid (A.Perm (els n (Gen n ms))) := hp
       have HC : Hid (∀ (j : Nat) (u : Value), vals[j]? = some u → w1.cell? ⟨g, 0 + j, none⟩ = some u) := hcells
       have HB1 : Hid (Below w.heap.size w w1) := b1
       have hs1 := b1.size
       have hgl : g < w1.heap.size := (Array.getElem?_eq_some_iff.1 hgw).1
       clear hv1 hv2 hp hbd hAl hcells b1 hgw C0))
  go_loopw [22] (fun i wr => ∃ (k : Nat) (D : DataW Unit), i = .int .i64 (k : Int) ∧ k ≤ r ∧ wr.ownsMap Tryz.prog 136 (plainElem Tryz.prog 3) w1.heap.size k D ∧ Hid (KindsIs D ((A.take k).map (kd n))) ∧ Below w1.heap.size w1 wr) (fun i _ => (r - intOf i).toNat)
  case atStart =>
    exact ⟨0, .map [], rfl, by omega, World.ownsMap_made _ _ _ _, (by simpa using KindsIs.empty : KindsIs (.map []) ((A.take 0).map (kd n))), balloc _ _⟩
  case round =>
    obtain ⟨k, D, rfl, hk, hown, HD, hB⟩ := hrel
    by_cases hlt : k < r
    · have hki : (k : Int) < r := by omega
      have hdec : decide ((k : Int) < r) = true := by simp; omega
      obtain ⟨u, hu⟩ : ∃ u, vals[k]? = some u := ⟨vals[k]'(by omega), by simp⟩
      obtain ⟨a, ha⟩ : ∃ a, A[k]? = some a := ⟨A[k]'(by have := Hr.out; omega), by simp⟩
      have hap : IsP n a := (mem_els.1 (HP.out.mem_iff.1 (List.mem_of_getElem? ha))).1
      have hcu := (hB.cell (p := ⟨g, 0 + k, none⟩) hgl).trans (HC.out k u hu)
      rw [Nat.zero_add] at hcu
      obtain ⟨gu, ucap, eu, _, hO⟩ := HROW.out k u a hu ha
      have hsl : Sl w1 u (a.map Int.ofNat) := by
        have h1 := hO.sl ucap
        have e1 : ((List.range a.length).map fun j => (a.getD j 0 : Int)) = a.map Int.ofNat := by
          have := pl_map (l := a) rfl
          unfold pl at this
          exact this
        rw [e1] at h1
        rw [eu]; exact h1
      have C := fun W (hb : Below w1.heap.size w1 W) => Kind_any n a u W (hsl.below hb) hap hn1 hn7
      have HTK : Hid ((A.take (k + 1)).map (kd n) = (A.take k).map (kd n) ++ [kd n a]) := by show _ = _; rw [List.take_add_one, ha, List.map_append]; rfl
      have hsz := hB.size
      have hoL := hown.lt
      have hspl := splice_kd hap hn7
      have hsm := kd_sm (n := n) a hn7
      have hkey := keyK_of hsm
      have HL : Hid (∀ y ∈ (A.take k).map (kd n), SmK y) := fun y hy => by
        obtain ⟨z, _, rfl⟩ := List.mem_map.1 hy
        exact kd_sm z hn7
      have HDL := HD
      obtain ⟨Lk, HLk⟩ : ∃ Lk, Hid ((A.take k).map (kd n) = Lk) := ⟨_, rfl⟩
      have hLkl : Lk.length ≤ 5040 := by rw [← HLk.out]; simp; omega
      rw [HLk.out] at HTK HL HD
      obtain ⟨x, Hx⟩ : ∃ x, Hid (kd n a = x) := ⟨_, rfl⟩
      rw [Hx.out] at HTK hspl hsm hkey
      rw [mv_eq] at hkey
      obtain ⟨X, HX⟩ : ∃ X, Hid (mvL x = X) := ⟨_, rfl⟩
      have hinf : (Tryz.prog.info? 136).map (·.size) = some X.length := by rw [← HX.out]; exact inf75L x
      have hXl : X.length = 7 := by rw [← HX.out]; exact mvL_len x
      rw [HX.out] at hspl hkey
      have HSM : Hid (SmK x) := hsm
      have HKEY : Hid (keyOf Tryz.prog 136 (.agg X.toArray) = some (keyK x)) := hkey
      clear hu ha hap hO hsl eu HDL hsm hkey
      go_wp2_with (first
        | (go_at_call 89; refine (C _ hB).mono ?_; rintro e w2 ⟨⟨y2, rfl, hy2⟩, b2⟩
           obtain ⟨sb, so, sc, ey2, hsbl, hsc⟩ := hy2.form (kdI_len n a) (by omega)
           subst ey2
           have hz := MRow.made0 136 w2
           have hB2 := Below.trans hB (b2.mono hsz)
           have hs2 := b2.size
           have HSC : Hid (∀ j, j < n → w2.cell? ⟨sb, so + j, none⟩ = some (.int .i64 ((kdI n a).getD j 0))) := hsc
           clear hy2 hsc)
        | (refine wpList_copy_splice rfl _ _ 29 29 rfl 3 und22 hsz3 (some ⟨w2.heap.size, 0, none⟩) (some ⟨sb, so, none⟩) 7 7 n sc rfl rfl w2.heap.size 0 ((List.range 7).map fun _ => Value.int .i64 (0 : Int)) 136 hz ((kdI n a).map (Value.int .i64)) ?c1 ?c2 ?c3 ?c4 w2.heap.size _ (Below.refl _ _) (Nat.le_refl _) ?_))
      case c1 => show _ = min n 7; rw [List.length_map, kdI_len]; omega
      case c2 =>
        intro _ j z hz
        have hjl : j < n := by have := (List.getElem?_eq_some_iff.1 hz).1; rwa [kdI_len] at this
        have hx := HSC.out j hjl
        have e : (kdI n a).getD j 0 = z := by simp [hz]
        rw [e] at hx
        exact hx
      case c3 => simp [kdI_len]; omega
      case c4 => intro v hv; obtain ⟨z, _, rfl⟩ := List.mem_map.1 hv; rfl
      intro w3 HG hb3
      go_wp2_with fail
      have hX3 : w3.rangeAt w2.heap.size 0 X := by
        have hG : w3.heap[w2.heap.size]? = some (.cells (splice ((List.range 7).map fun _ => Value.int .i64 (0 : Int)) 0 ((kdI n a).map (Value.int .i64))).toArray 136 (0, 0)) := HG.out
        rw [hspl] at hG
        intro j z hz
        rw [Nat.zero_add, cell_of_row w3 _ j _ _ _ hG]
        simpa using hz
      have hs3 := hb3.size
      rw [World.size_alloc] at hs3
      have b23 : Below w2.heap.size w2 w3 := (balloc w2 _).trans hb3
      have hB3 : Below w1.heap.size w1 w3 := hB2.trans (b23.mono (by omega))
      have hown3 : w3.ownsMap Tryz.prog 136 (plainElem Tryz.prog 3) w1.heap.size k D := kinds_below (kinds_below hown b2) b23
      have hDm := hown3.isMap
      obtain ⟨c, v0, st, w4, hat, hlook, hent, hlook2, hg4, hs4, hst⟩ := entry_any hown3.drew (by unfold maxLen; omega) HKEY.out
      have hcx := HD.out.look HL.out HSM.out hat
      have hcb : (Lk.count x : Int) ≤ 5040 := by have := List.count_le_length (a := x) (l := Lk); omega
      have hc0 : 0 ≤ c := by rw [hcx]; omega
      have hc1 : c ≤ 5040 := by rw [hcx]; exact hcb
      have HCX : Hid (c = (Lk.count x : Int)) := hcx
      obtain ⟨w5, hsto, hown5, hg5⟩ := hst (c + 1) (WalkArith.wf_i64 (by omega))
      rw [show goInt (st : Int) = Value.int .i64 (st : Int) from rfl] at hsto hent
      have hne : w2.heap.size ≠ w1.heap.size := by omega
      have hX4 : w4.rangeAt w2.heap.size 0 X := range_block (w := w3.drew) hX3 (hg4.block w2.heap.size (by show w2.heap.size < w3.heap.size; omega) (by simpa using hne))
      have hX5 : w5.rangeAt w2.heap.size 0 X := range_block (w := w3.drew) hX3 (hg5.block w2.heap.size (by show w2.heap.size < w3.heap.size; omega) (by simpa using hne))
      have hB5 : Below w1.heap.size w1 w5 := hB3.drew.grown hg5 (by show w1.heap.size ≤ w3.heap.size; omega) (fun j hj => by cases hj; exact Nat.le_refl _)
      have hadd : c + 1 ≤ 5041 := by omega
      clear hat hcx hst HG hb3 hz hown hown3 hB2 hB3 hg4 hg5 hspl C b2 b23
      refine wp_region_noPanic ?_
      refine wp_region_held_drew (S := fun w_ => w_.rangeAt w2.heap.size 0 X) (by kernel_rfl) (by exact hX3) (fun hSx => ?_)
      refine wpAnyH_take (i := 0) (v := .map (some w1.heap.size)) rfl (by kernel_rfl) (by kernel_rfl) (by kernel_rfl) (fun _ _ _ h => h) (Or.inl ⟨by rfl, fun w_ hSw => by (try dsimp only at hSw); go_simp⟩) hSx ?_
      try simp only [Act.put, List.setIfInBounds_toArray]
      refine wpAnyH_take (i := 1) (v := .agg X.toArray) rfl (by kernel_rfl) (by kernel_rfl) (by kernel_rfl) (fun _ _ _ h => h) (yieldsIf_load_mid (by rfl) 136 _ rfl w2.heap.size 0 rfl X _ (fun _ h => h) und75 rfl hinf) hSx ?_
      try simp only [Act.put]
      refine wpAnyH_ready (rs := [2, 4]) (by kernel_rfl) (by simp) ?_
      refine AllReadyH.cons rfl (fun J hJ => ?_) (AllReadyH.cons rfl (fun J hJ => ?_) AllReadyH.nil)
      · go_simp
        refine hJ.out _ _ hSx (fun hSy => ?_)
        clear hJ J
        try simp only [Act.put, List.setIfInBounds_toArray, List.set_cons_zero, List.set_cons_succ]
        refine wpAnyH_take (i := 3) (v := .int .i64 (c + 1)) rfl (by kernel_rfl) (by kernel_rfl) (by kernel_rfl) (fun _ _ _ h => h) (Or.inl ⟨by rfl, fun w_ hSw => by (try dsimp only at hSw); go_simp; rw [IntKind.wrap_i64]; omega⟩) hSy ?_
        try simp only [Act.put, List.setIfInBounds_toArray]
        refine wpAnyH_ready (rs := [4]) (by kernel_rfl) (by simp) ?_
        refine AllReadyH.cons rfl (fun J hJ => ?_) AllReadyH.nil
        go_simp
        refine hJ.out _ _ hX4 (fun hSz => ?_)
        clear hJ J
        try simp only [Act.put, List.setIfInBounds_toArray, List.set_cons_zero, List.set_cons_succ]
        refine wpAnyH_take (i := 5) (v := .int .i64 (st : Int)) rfl (by kernel_rfl) (by kernel_rfl) (by kernel_rfl) (fun _ _ _ h => h) (Or.inl ⟨by rfl, fun w_ hSw => by (try dsimp only at hSw); go_simp⟩) hSz ?_
        try simp only [Act.put, List.setIfInBounds_toArray]
        refine wpAnyH_ready (rs := [6]) (by kernel_rfl) (by simp) ?_
        refine AllReadyH.cons rfl (fun J hJ => ?_) AllReadyH.nil
        go_simp
        refine hJ.out _ _ hX5 (fun _ => ?_)
        clear hJ J
        refine wpAnyH_done (by kernel_rfl) ?_ _
        refine NoPanic.normal ?_
        clear hlook hent hlook2 hsto
        go_wp2
        go_roundw
        case rel =>
          refine ⟨k + 1, _, by go_num, by omega, hown5, ?_, hB5⟩
          show KindsIs _ _
          rw [HTK.out, HCX.out]
          exact HD.out.put hDm HL.out HSM.out
        case measure => simp [intOf]; omega
      · go_simp
        refine hJ.out _ _ hX4 (fun hSy => ?_)
        clear hJ J
        try simp only [Act.put, List.setIfInBounds_toArray, List.set_cons_zero, List.set_cons_succ]
        refine wpAnyH_take (i := 5) (v := .int .i64 (st : Int)) rfl (by kernel_rfl) (by kernel_rfl) (by kernel_rfl) (fun _ _ _ h => h) (Or.inl ⟨by rfl, fun w_ hSw => by (try dsimp only at hSw); go_simp⟩) hSy ?_
        try simp only [Act.put, List.setIfInBounds_toArray]
        refine wpAnyH_ready (rs := [2]) (by kernel_rfl) (by simp) ?_
        refine AllReadyH.cons rfl (fun J hJ => ?_) AllReadyH.nil
        go_simp
        refine hJ.out _ _ hX4 (fun hSz => ?_)
        clear hJ J
        try simp only [Act.put, List.setIfInBounds_toArray, List.set_cons_zero, List.set_cons_succ]
        refine wpAnyH_take (i := 3) (v := .int .i64 (c + 1)) rfl (by kernel_rfl) (by kernel_rfl) (by kernel_rfl) (fun _ _ _ h => h) (Or.inl ⟨by rfl, fun w_ hSw => by (try dsimp only at hSw); go_simp; rw [IntKind.wrap_i64]; omega⟩) hSz ?_
        try simp only [Act.put, List.setIfInBounds_toArray]
        refine wpAnyH_ready (rs := [6]) (by kernel_rfl) (by simp) ?_
        refine AllReadyH.cons rfl (fun J hJ => ?_) AllReadyH.nil
        go_simp
        refine hJ.out _ _ hX5 (fun _ => ?_)
        clear hJ J
        refine wpAnyH_done (by kernel_rfl) ?_ _
        refine NoPanic.normal ?_
        clear hlook hent hlook2 hsto
        go_wp2
        go_roundw
        case rel =>
          refine ⟨k + 1, _, by go_num, by omega, hown5, ?_, hB5⟩
          show KindsIs _ _
          rw [HTK.out, HCX.out]
          exact HD.out.put hDm HL.out HSM.out
        case measure => simp [intOf]; omega
    · have hdec : decide ((k : Int) < r) = false := by simp; omega
      obtain rfl : k = r := by omega
      go_wp2
      go_ret
      refine ⟨w1.heap.size, k, D, (A.take k).map (kd n), rfl, hs1, hr6, hown, HD.out, ?_, HB1.out.trans (hB.mono hs1)⟩
      rw [List.take_of_length_le (by have := Hr.out; omega)]
      exact HP.out.map _

end Go.Proofs.YtgpkhfpejopacabGreatDoor.Gc

namespace Go.Proofs.YtgpkhfpejopacabGreatDoor.Gc
open Go.RowKit Go.Maps

theorem int_perm_sum {L M : List (List Nat)} (h : L.Perm M) (F : List Nat → Int) : (L.map F).sum = (M.map F).sum := by
  induction h with
  | nil => rfl
  | cons x _ ih => rw [List.map_cons, List.sum_cons, List.map_cons, List.sum_cons, ih]
  | swap x y l => simp only [List.map_cons, List.sum_cons]; omega
  | trans _ _ ih1 ih2 => exact ih1.trans ih2
theorem kinds_sm {n : Nat} {ms L : List (List Nat)} (hn : n ≤ 7) (hp : L.Perm ((els n (Gen n ms)).map (kd n))) : ∀ y ∈ L, SmK y ∧ y.sum ≤ 7 := fun y hy => by
  obtain ⟨a, ha, rfl⟩ := List.mem_map.1 (hp.mem_iff.1 hy)
  exact ⟨kd_sm a hn, kd_le (mem_els.1 ha).1 hn⟩
end Go.Proofs.YtgpkhfpejopacabGreatDoor.Gc
