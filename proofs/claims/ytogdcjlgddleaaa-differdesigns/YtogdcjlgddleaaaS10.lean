/- The walk of the document's Shifted. -/
import Derived.Test.YtogdcjlgddleaaaS8
namespace Go.Proofs.Ytogdcjlgddleaaa
open Go.RowKit Go.Maps

set_option maxRecDepth 100000 in
set_option maxHeartbeats 8000000 in
theorem Shifted_any (v t s : Nat) (D : List Nat) (u : Value) (w : World) (hG : GoodS v D) (hu : Sl w u (D.map Int.ofNat)) (ht : t < 200) (hs : s < 200) :
    Calls Try.prog 19 #[.int .i64 (v : Int), u, .int .i64 (t : Int), .int .i64 (s : Int)] w fun e w' => ∃ x, e = .returned x ∧ ORow w' w.heap.size x (s3 (D.map (mvN v t s))) ∧ Below w.heap.size w w' := by
  have h1 := hG.pos
  have h60 := hG.le
  have hlen := hG.len
  obtain ⟨i3, hi3, hz0, hz1, hz2⟩ := info3
  obtain ⟨a, ca, rfl, hA⟩ := sl_at hu
  obtain ⟨g, Hg⟩ : ∃ g, Hid (w.heap.size = g) := ⟨_, rfl⟩
  have HA : Hid (∀ i, i < D.length → ∃ b off, a = some ⟨b, off, none⟩ ∧ ∀ W, Below g w W → W.cell? ⟨b, off + i, none⟩ = some (.int .i64 ((D.getD i 0 : Nat) : Int))) := fun i hi => by
    obtain ⟨b, o, e, hc⟩ := hA i hi
    exact ⟨b, o, e, fun W bW => (bW.cell (by rw [← Hg.out]; exact World.block_lt_of_cell? _ _ hc)).trans hc⟩
  have HV : Hid (∀ i, i < D.length → D.getD i 0 < v) := fun i hi => by
    rw [List.getD_eq_getElem?_getD, List.getElem?_eq_getElem hi]; exact hG.lt _ (List.getElem_mem hi)
  have HN : Hid (∀ i, i < D.length → (D.take (i + 1)).map (mvN v t s) = (D.take i).map (mvN v t s) ++ [mvN v t s (D.getD i 0)]) := fun i hi => by rw [take_up hi, List.map_append]; rfl
  have HE : Hid ((D.take D.length).map (mvN v t s) = D.map (mvN v t s)) := by show (D.take D.length).map (mvN v t s) = D.map (mvN v t s); rw [List.take_length]
  have HLn : Hid (∀ i, i ≤ D.length → ((D.take i).map (mvN v t s)).length = i) := fun i hi => by rw [List.length_map, List.length_take]; omega
  have HSt : Hid (∀ (l : List Nat) (x : Value) (W : World), Sl W x (l.map Int.ofNat) → l.length ≤ 99 → Calls Try.prog 30 #[x] W fun e w' => ∃ x, e = .returned x ∧ ORow w' W.heap.size x (s3 l) ∧ Below W.heap.size W w') := fun l x W h1 h2 => Sorted_any l x W h1 h2
  obtain ⟨M, HM⟩ : ∃ M : Nat → List Nat, Hid (∀ i, (D.take i).map (mvN v t s) = M i) := ⟨fun i => (D.take i).map (mvN v t s), fun _ => rfl⟩
  have HN2 : Hid (∀ i, i < D.length → M (i + 1) = M i ++ [mvN v t s (D.getD i 0)]) := fun i hi => by rw [← HM.out, ← HM.out]; exact HN.out i hi
  have HL2 : Hid (∀ i, i ≤ D.length → (M i).length = i) := fun i hi => by rw [← HM.out]; exact HLn.out i hi
  have HE2 : Hid (M D.length = D.map (mvN v t s)) := by show _ = _; rw [← HM.out]; exact HE.out
  have H0 : Hid (M 0 = []) := by show M 0 = []; rw [← HM.out]; rfl
  obtain ⟨Z, HZ⟩ : ∃ Z, Hid (s3 (D.map (mvN v t s)) = Z) := ⟨_, rfl⟩
  rw [Hg.out, HZ.out]
  generalize D.length = n at *
  have hv0 : (v : Int) ≠ 0 := by omega
  have hw4 : ¬ v = 0 := by omega
  have hgw : w.heap.size = g := Hg.out
  clear hu hA hG HN HLn HE HM
  go_enter Try.func19, Try.ntmps19
  go_wp2
  go_loopw [9, 10] (fun ov iv wr => ∃ i : Nat, iv = .int .i64 (i : Int) ∧ i ≤ n ∧ ORow wr g ov (M i) ∧ Below g w wr) (fun _ iv _ => (n - intOf iv).toNat)
  case atStart => exact ⟨0, rfl, by omega, by rw [H0.out]; exact World.ownsRow_nil _ _ _ _, by rw [← hgw]; exact Below.refl _ _⟩
  case round =>
    clear H0
    obtain ⟨i, rfl, hi, hown, hB⟩ := hrel
    have hgs : g ≤ wr.heap.size := by rw [← hgw]; exact hB.size
    by_cases hlt : i < n
    · have hii : (i : Int) < n := by omega
      have hdec : decide ((i : Int) < n) = true := by simp; omega
      obtain ⟨b1, o1, rfl, c1⟩ := HA.out i hlt
      replace c1 := c1 _ hB
      have hxv := HV.out i hlt
      have hN := HN2.out i hlt
      have hL := HL2.out i hi
      obtain ⟨x, hx⟩ : ∃ x, D.getD i 0 = x := ⟨_, rfl⟩
      rw [hx] at c1 hxv hN
      obtain ⟨m, hm⟩ : ∃ m, x * t = m := ⟨_, rfl⟩
      have hmi : (x : Int) * (t : Int) = (m : Int) := by rw [← hm]; simp
      have hmb : m ≤ 60 * 200 := by rw [← hm]; exact Nat.mul_le_mul (by omega) (by omega)
      have hmod := mv_int (v := v) (s := s) hm
      obtain ⟨k, Hk⟩ : ∃ k, Hid (mvN v t s x = k) := ⟨_, rfl⟩
      rw [Hk.out] at hmod hN
      obtain ⟨l, Hl⟩ : ∃ l, Hid (M i = l) := ⟨_, rfl⟩
      rw [Hl.out] at hN hL hown
      have HUU : Hid (M (i + 1) = l ++ [k]) := hN
      unfold ORow at hown
      rw [hL] at hown
      obtain ⟨oa, oc, rfl⟩ := own_form hown
      have HLL : Hid (l.length = i) := hL
      clear hN hx hm hL HA HV HN2 HE2 HL2 HSt Hl
      go_wp2_with (first
        | (at_builtin; refine wpList_append_own _ rfl _ _ 22 rfl g 3 i3 (.int .i64 0) 1 8 und22 hi3 hz0 hz1 hz2 rfl (by decide) _ _ _ rfl (hown.alloc _) ⟨wr.heap.size, 0, none⟩ 1 1 [.int .i64 (k : Int)] rfl rfl ?c1 ?c2 ?c3 ?c4 ?c5 ?_)
        | go_in)
      case c1 =>
        intro j u hj
        match j, hj with
        | 0, hj => simp at hj; subst hj; simp [Addr.add]
      case c2 => intro u hu; simp at hu; subst hu; rfl
      case c3 => unfold maxLen; omega
      case c4 => omega
      case c5 => simp; omega
      · intro v' w2 hown' hgrow _
        have hb2 : Below g w w2 := (hB.alloc (by omega) _).grown hgrow (by simp; omega) (fun k hk => (hown.lt k hk).1)
        have hown2 : w2.ownsRow g 3 1 v' (i + 1) (((l ++ [k]).map Int.ofNat).map (Value.int .i64)) := by simpa using hown'
        have hown3 : ORow w2 g v' (M (i + 1)) := by
          rw [HUU.out]
          unfold ORow
          rw [List.length_append, HLL.out]
          exact hown2
        clear hown' hown2 hgrow hown hB
        go_wp2
        go_roundw
        case rel => exact ⟨i + 1, by go_num, by omega, hown3, hb2⟩
        case measure => simp [intOf]; omega
    · have hdec : decide ((i : Int) < n) = false := by simp; omega
      obtain rfl : i = n := by omega
      have CS := HSt.out (M i) _ wr hown.sl (by rw [HL2.out i hi]; omega)
      rw [HE2.out, HZ.out] at CS
      unfold ORow at hown
      rw [HL2.out i hi] at hown
      obtain ⟨oa, oc, rfl⟩ := own_form hown
      clear HSt HE2 HL2 HN2 HV HA
      go_wp2_with (first
        | (go_at_call 30; refine CS.mono ?_; rintro e w2 ⟨x, rfl, ho2, hb2⟩; clear CS)
        | go_in)
      go_ret
      exact ⟨_, rfl, own_low ho2 hgs, hB.trans (hb2.mono hgs)⟩

end Go.Proofs.Ytogdcjlgddleaaa
