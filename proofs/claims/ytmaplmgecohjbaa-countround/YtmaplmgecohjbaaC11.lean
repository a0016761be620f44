/- The walk of All. -/
import Derived.Test.YtmaplmgecohjbaaG41
import Derived.Test.YtmaplmgecohjbaaC10
namespace Go.Proofs.Ytmaplmgecohjbaa
open Go.RowKit Go.Shelf

set_option maxRecDepth 100000 in
set_option maxHeartbeats 1000000 in
theorem list_row (n : Nat) (a : List Nat) (w : World) (h1 : 1 ≤ n) (hn : n ≤ 7) (ha : a.length = n) :
    Calls Try.prog 77 #[mv (ext n a), .int .i64 (n : Int)] w fun e w' => (∃ g cap, e = .returned (.slice (some ⟨g, 0, none⟩) n cap) ∧ w.heap.size ≤ g ∧ Own w' g n (fun j => (a.getD j 0 : Int))) ∧ Below w.heap.size w w' := by
  obtain ⟨i3, ti, tz0, tz1, tz2⟩ := info3
  have hk0 := MRow.made 90 w (fun j => ((ext n a).getD j 0 : Int))
  have hB0 := balloc w (.cells (mrow fun j => ((ext n a).getD j 0 : Int)) 90)
  have hnews : ∀ j u, (vl a)[j]? = some u → (w.alloc (.cells (mrow fun j => ((ext n a).getD j 0 : Int)) 90)).cell? ⟨w.heap.size, 0 + j, none⟩ = some u := fun j u hu => by
    have hj : j < n := by have := (List.getElem?_eq_some_iff.1 hu).1; simp [vl] at this; omega
    rw [Nat.zero_add, hk0.cell j (by omega), ext_lo hn a hj]
    have hj' : j < a.length := by omega
    simp [vl, hj'] at hu ⊢
    exact hu
  have C := AnyE.slices_Clone cloneInt i3 (.int .i64 0) 1 8 ti tz0 tz1 tz2 (by simp [Value.cells]) (by omega) sizeOf3' w.heap.size 0 n 7 (vl a) _ (by simp [vl, ha]) (by unfold maxLen; omega) (by omega) hnews (fun u hu => by
    simp only [vl, List.mem_map] at hu
    obtain ⟨x, _, rfl⟩ := hu
    rfl)
  change Calls Try.prog 70 _ _ _ at C
  have C' := C.mono (R' := fun e w' => (∃ g cap, e = .returned (.slice (some ⟨g, 0, none⟩) n cap) ∧ w.heap.size ≤ g ∧ Own w' g n (fun j => (a.getD j 0 : Int))) ∧ Below w.heap.size w w') (fun e w' ⟨v', e1, e2, _, e4⟩ => by
    obtain ⟨g, cap, rfl, hg, hO⟩ := Own.of (l := a.map Int.ofNat) e2 h1
    refine ⟨⟨g, cap, e1, by rw [World.size_alloc] at hg; omega, hO.congr fun j hj => ?_⟩, Below.next hB0 e4⟩
    have hj' : j < a.length := by omega
    simp [hj'])
  clear C hnews ti tz0 tz1 tz2
  unfold mv
  obtain ⟨F, HF⟩ : ∃ F : Nat → Int, Hid ((fun j => ((ext n a).getD j 0 : Int)) = F) := ⟨_, rfl⟩
  rw [HF.out] at C' hk0 hB0 ⊢
  have hn0 : (0 : Int) ≤ (n : Int) := by omega
  have hn7 : (n : Int) ≤ 7 := by omega
  go_enter Try.func77, Try.ntmps77
  go_wp2_with (first
    | (go_at_call 70; refine C'.mono ?_; rintro e w1 ⟨⟨g, cap, rfl, hg, hO⟩, b1⟩))
  go_ret
  exact ⟨⟨g, cap, rfl, hg, hO⟩, b1⟩

theorem CycR.low {w : World} {base b0 : Nat} {v : Value} {ls : List (List Nat)} (h : CycR w base v ls) (hb : b0 ≤ base) : CycR w b0 v ls := by
  obtain ⟨vals, h1, h2⟩ := h
  refine ⟨vals, ?_, fun i u l hu hl => ?_⟩
  · obtain ⟨h3, h4 | ⟨g, cap, cur, h5, h6, h7⟩⟩ := h1
    · exact ⟨h3, .inl h4⟩
    · exact ⟨h3, .inr ⟨g, cap, cur, h5, by omega, h7⟩⟩
  · obtain ⟨g, cap, rfl, hg, hO⟩ := h2 i u l hu hl
    exact ⟨g, cap, rfl, by omega, hO⟩
theorem ext_back {n : Nat} (hn : n ≤ 7) {a : List Nat} (ha : a.length = n) : ((List.range n).map fun j => (ext n a).getD j 0) = a := by
  refine ext_getD (by simp) ha fun y hy => ?_
  have := ext_lo hn a hy
  simp [hy] at this ⊢
  exact this
theorem ext_perm {n : Nat} (hn : n ≤ 7) {A L : List (List Nat)} (hA : ∀ a ∈ A, a.length = n) (hL : ∀ a ∈ L, a.length = n) (h : (A.map (ext n)).Perm (L.map (ext n))) : A.Perm L := by
  have h2 := h.map fun x => (List.range n).map fun j => x.getD j 0
  rw [List.map_map, List.map_map] at h2
  have key : ∀ X : List (List Nat), (∀ a ∈ X, a.length = n) → X.map ((fun x => (List.range n).map fun j => x.getD j 0) ∘ ext n) = X := by
    intro X hX
    have : X.map ((fun x => (List.range n).map fun j => x.getD j 0) ∘ ext n) = X.map id := List.map_congr_left fun a ha => ext_back hn (hX a ha)
    rw [this, List.map_id]
  rw [key A hA, key L hL] at h2
  exact h2
/-- What All answers: rows of one's own. -/
def AllAns (w : World) (n : Nat) (ms : List (List Nat)) (e : Ending) (w' : World) : Prop :=
  ∃ (y : Value) (L : List (List Nat)), e = .returned (.tuple #[y, .int .i64 0]) ∧ CycR w' w.heap.size y L ∧ L.Perm (els n (Gen n ms)) ∧ Below w.heap.size w w'

set_option maxRecDepth 100000 in
set_option maxHeartbeats 4000000 in
theorem All_any (n : Nat) (ms : List (List Nat)) (v : Value) (w : World) (h : Mk n ms v w) :
    Calls Try.prog 58 #[.int .i64 (n : Int), v] w fun e w' => AllAns w n ms e w' := by
  obtain ⟨i22, hi', hz0', hz1', hz2'⟩ := info22
  have hn1 := h.n1
  have hn7 := h.n7
  have C0 := h.check
  have C1 := fun W (b : Below w.heap.size w W) => (h.below b).moves
  have C2 := fun W (b : Below w.heap.size w W) => (h.below b).made
  have HISP : Hid (∀ m ∈ ms, IsP n m) := h.isP
  have C3 := fun (G : Nat) (L : List (List Nat)) (base : Nat) (W : World) (hM : Mem base W G (L.map (ext n))) (h0 : 0 < (L.map (ext n)).length) (h6 : (L.map (ext n)).length ≤ 6000) => inOrder_any base G (L.map (ext n)) W hM h0 h6
  clear h
  go_enter Try.func58, Try.ntmps58
  go_wp2_with (first
    | (go_at_call 34; refine C0.mono ?_; rintro e w1 ⟨rfl, b1⟩)
    | (go_at_call 52; refine (C1 _ b1).mono ?_; rintro e w2 ⟨⟨x, rfl, hx⟩, b2⟩; have b2' := Below.next b1 b2)
    | (go_at_call 51; refine (C2 _ b1 x _ hx).mono ?_; rintro e w3 ⟨⟨G, L, rfl, hM, hnd, hgen⟩, b3⟩; have b3' := Below.next b2' b3
       have hpE := gen_perm HISP.out hnd hgen
       have hlo := gen_bound HISP.out hn7 hnd hgen
       have HG : Hid (L.Perm (els n (Gen n ms))) := hpE
       have h0L : 0 < L.length := List.length_pos_of_mem ((hgen _).2 Gen.one)
       have h6L : L.length ≤ 6000 := by have := hlo.2; omega
       clear hgen hnd hpE hlo)
    | (go_at_call 76; refine (C3 G L _ _ hM (by rw [List.length_map]; exact h0L) (by rw [List.length_map]; exact h6L)).mono ?_; rintro e w4 ⟨⟨y, M', rfl, hMv, hp, _⟩, b4⟩; have b4' := Below.next b3' b4
       have hMl : M'.length = L.length := by rw [hp.length_eq, List.length_map]
       obtain ⟨ya, yc, ey⟩ := hMv.form
       rw [hMl] at ey
       subst ey))
  obtain ⟨r, Hr⟩ : ∃ r, Hid (L.length = r) := ⟨_, rfl⟩
  rw [Hr.out] at h6L h0L hMl hMv ⊢
  have HMV : Hid (Mvs w4 (.slice ya r yc) M') := hMv
  have HP : Hid (M'.Perm (L.map (ext n))) := hp
  have HB4 : Hid (Below w.heap.size w w4) := b4'
  have hw4 : w.heap.size ≤ w4.heap.size := b4'.size
  clear hMv hp b1 b2 b3 b4 b2' b3' b4' hM hx C0 C1 C2 C3
  go_loopw [7, 21] (fun o i wr => ∃ (k : Nat) (A : List (List Nat)), i = .int .i64 (k : Int) ∧ k ≤ r ∧ CycR wr w4.heap.size o A ∧ Hid (A.length = k ∧ A.map (ext n) = M'.take k ∧ ∀ a ∈ A, a.length = n) ∧ Below w4.heap.size w4 wr) (fun _ i _ => (r - intOf i).toNat)
  case atStart => exact ⟨0, [], rfl, by omega, CycR.nil _ _, ⟨rfl, by simp, by simp⟩, Below.refl _ _⟩
  case round =>
    obtain ⟨k, A, rfl, hk, hR, HA, hB⟩ := hrel
    by_cases hlt : k < r
    · have hki : (k : Int) < r := by omega
      have hdec : decide ((k : Int) < r) = true := by simp; omega
      obtain ⟨m, hm⟩ : ∃ m, M'[k]? = some m := ⟨M'[k]'(by omega), by simp⟩
      obtain ⟨a, haL, rfl⟩ : ∃ a, a ∈ L ∧ ext n a = m := by
        obtain ⟨a, h1, h2⟩ := List.mem_map.1 (HP.out.mem_iff.1 (List.mem_of_getElem? hm))
        exact ⟨a, h1, h2⟩
      have hal : a.length = n := (mem_els.1 (HG.out.mem_iff.1 haL)).1.len
      have HTK : Hid (M'.take (k + 1) = M'.take k ++ [ext n a]) := by show _ = _; rw [List.take_add_one, hm]; rfl
      obtain ⟨b, off, hya, hbl, hrM0⟩ := HMV.out.at hm
      subst hya
      have hrM := range_below hrM0 hB hbl
      have C := fun W => list_row n a W hn1 hn7 hal
      rw [mv_eq] at C
      have hinM : (Try.prog.info? 90).map (·.size) = some (mvL (ext n a)).length := inf62L _
      have hlM : (mvL (ext n a)).length = 7 := mvL_len _
      have h1M : ∀ u ∈ mvL (ext n a), u.oneCell' = true := mvL_one _
      obtain ⟨M, HM⟩ : ∃ M, Hid (mvL (ext n a) = M) := ⟨_, rfl⟩
      rw [HM.out] at hinM hrM hlM h1M C
      have honeM := all_oneCell_toArray h1M
      have hinM' : (Try.prog.info? 90).map (·.size) = some M.toArray.size := by simpa using hinM
      have hthM : (wr.alloc (.cells #[.int .i64 0, .int .i64 0, .int .i64 0, .int .i64 0, .int .i64 0, .int .i64 0, .int .i64 0] 90)).there wr.heap.size 0 M.toArray.size := by
        intro q hq
        rw [Nat.zero_add, cell_of_row _ _ q _ _ _ (heap_alloc_new wr _), frozen_of_row _ _ q _ _ (heap_alloc_new wr _)]
        have hq7 : q < 7 := by simpa [hlM] using hq
        exact ⟨by simp [hq7], rfl⟩
      have hBM : Below wr.heap.size wr ((wr.alloc (.cells #[.int .i64 0, .int .i64 0, .int .i64 0, .int .i64 0, .int .i64 0, .int .i64 0, .int .i64 0] 90)).setCells wr.heap.size 0 M) := (balloc wr (.cells #[.int .i64 0, .int .i64 0, .int .i64 0, .int .i64 0, .int .i64 0, .int .i64 0, .int .i64 0] 90)).trans (bsets (Nat.le_refl _) _ _ _)
      have hrM2 : ((wr.alloc (.cells #[.int .i64 0, .int .i64 0, .int .i64 0, .int .i64 0, .int .i64 0, .int .i64 0, .int .i64 0] 90)).setCells wr.heap.size 0 M).rangeAt wr.heap.size 0 M := World.rangeAt_setCells_same _ _ _ _ (by simpa using hthM)
      obtain ⟨W, HW⟩ : ∃ W, Hid ((wr.alloc (.cells #[.int .i64 0, .int .i64 0, .int .i64 0, .int .i64 0, .int .i64 0, .int .i64 0, .int .i64 0] 90)).setCells wr.heap.size 0 M = W) := ⟨_, rfl⟩
      rw [HW.out] at hBM hrM2
      obtain ⟨vals, hv1, hv2⟩ := hR
      have hAl := HA.out.1
      rw [hAl] at hv1
      have hsz := hB.size
      clear hrM0 hm haL
      go_wp2_with (first
        | (refine wpList_load_mid rfl 90 _ rfl b (off + k * 7) rfl M _ hrM und62 rfl hinM ?_)
        | (refine wpList_store_mid rfl 90 _ _ rfl wr.heap.size 0 M.toArray rfl rfl hthM hinM' honeM ?_; rw [show M.toArray.toList = M from rfl, HW.out])
        | (refine wpList_load_mid rfl 90 _ rfl wr.heap.size 0 rfl M _ hrM2 und62 rfl hinM ?_)
        | (go_at_call 77; refine (C _).mono ?_; rintro e w5 ⟨⟨g, cap, rfl, hg, hO⟩, b5⟩; have b5' := Below.next hBM b5; have hk5 : Kp 0 wr w5 := Kp.below b5'; have hv5 := own_below hv1 b5'; have hs5 := b5'.size)
        | (at_builtin; refine wpList_append_own _ rfl _ _ 28 rfl w4.heap.size 40 i22 (.slice none 0 0) 1 24 und54 hi' hz0' hz1' hz2' rfl (by decide) _ _ _ rfl (hv5.alloc _) ⟨w5.heap.size, 0, none⟩ 1 1 [.slice (some ⟨g, 0, none⟩) n cap] rfl rfl ?c1 ?c2 ?c3 ?c4 ?c5 ?_)
        | go_in)
      case c1 =>
        intro j u hj
        match j, hj with
        | 0, hj => simp at hj; subst hj; simp [Addr.add]
      case c2 => intro u hu; simp at hu; subst hu; rfl
      case c3 => unfold maxLen; omega
      case c4 => omega
      case c5 => simp; omega
      intro v' w8 hown8 hgrow8 _
      have hU8 : Below w4.heap.size w5 w8 := ((Below.refl _ _).alloc (by omega) _).grown hgrow8 (by simp; omega) (fun k hk => (hv5.lt k hk).1)
      have hB8 : Below w4.heap.size w4 w8 := (hB.trans (b5'.mono hsz)).trans hU8
      have hka : Kp 0 w5 (w5.alloc (.cells #[.slice (some ⟨g, 0, none⟩) n cap] 40)) := Kp.below (balloc w5 _)
      have hsM := hBM.size
      have hrow : RowIs (w5.alloc (.cells #[.slice (some ⟨g, 0, none⟩) n cap] 40)) w4.heap.size (.slice (some ⟨g, 0, none⟩) n cap) a := ⟨g, cap, by rw [hal], by omega, by rw [hal]; exact hO.below (balloc w5 _)⟩
      have hR8 := CycR.more (l := a) (ls := A) (by rw [hAl]; exact hv5.alloc _) (fun i u l h1 h2 => ((hv2 i u l h1 h2).kp hk5 (by omega)).kp hka (by omega)) hrow (by rw [hAl]; exact hown8) hgrow8
      clear hka hrow hown8 hgrow8 hU8 hv5 hO b5 b5' hk5 hv1 hv2 hBM hrM2 hrM
      go_wp2
      go_roundw
      case rel =>
        refine ⟨k + 1, A ++ [a], by go_num, by omega, hR8, ⟨by rw [List.length_append, hAl]; rfl, ?_, fun x hx => ?_⟩, hB8⟩
        · rw [List.map_append, HA.out.2.1, HTK.out]; rfl
        · rcases List.mem_append.1 hx with h | h
          · exact HA.out.2.2 x h
          · rw [List.mem_singleton.1 h]; exact hal
      case measure => simp [intOf]; omega
    · have hdec : decide ((k : Int) < r) = false := by simp; omega
      obtain rfl : k = r := by omega
      go_wp2
      go_ret2
      refine ⟨_, A, rfl, hR.low hw4, ?_, HB4.out.trans (hB.mono hw4)⟩
      refine (ext_perm hn7 HA.out.2.2 (fun a ha => (mem_els.1 (HG.out.mem_iff.1 ha)).1.len) ?_).trans HG.out
      rw [HA.out.2.1, List.take_of_length_le (by omega)]
      exact HP.out

end Go.Proofs.Ytmaplmgecohjbaa
