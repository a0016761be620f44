/- meetings, walked. -/
import Derived.Test.YtpeplnojmogkfaaMM
import Derived.Test.YtpeplnojmogkfaaRdX
namespace Go.Proofs.Ytpeplnojmogkfaa
open Go.RowKit Go.Maps

/-- What is known of rounds that were looked at one by one. -/
structure Lkd (n : Nat) (L : List (List Nat)) : Prop where
  two : 2 ≤ n
  le : n ≤ 16
  few : L.length ≤ 15
  len : ∀ i, i < L.length → (L.getD i []).length = n
  rnd : ∀ i, i < L.length → Rnd n fun x => (L.getD i []).getD x 0
theorem mtI_len {n : Nat} {L : List (List Nat)} (h : Lkd n L) {i k : Nat} (hi : i ≤ L.length) (hk : k ≤ n) (l : List Nat) : (mtA L n i ++ mtE i l k).length ≤ 999 := by
  rw [List.length_append]
  have := mtA_len L n i
  have := mtE_len i k l
  have := h.le
  have := h.few
  have : n * i ≤ 16 * 15 := Nat.mul_le_mul h.le (by omega)
  omega
/-- What meetings answers. -/
def MeetAns (n : Nat) (L : List (List Nat)) (w : World) (e : Ending) (w' : World) : Prop :=
  (∃ (B m : Nat) (D : DataW Unit), e = .returned (.tuple #[.map (some B), .bool true]) ∧ w.heap.size ≤ B ∧ m ≤ 999 ∧ w'.ownsMap Try.prog 50 (plainElem Try.prog 3) B m D ∧ MpIs kP POk D (mtA L n L.length) ∧ NoTw L n L.length ∧ Below w.heap.size w w') ∨
  (e = .returned (.tuple #[.map none, .bool false]) ∧ ¬ NoTw L n L.length ∧ Below w.heap.size w w')
set_option maxRecDepth 100000 in
set_option maxHeartbeats 16000000 in
theorem meetings_any (n : Nat) (L : List (List Nat)) (v : Value) (w : World) (hv : Rw w v (toZ L)) (hL : Lkd n L) :
    Calls Try.prog 27 #[v] w fun e w' => MeetAns n L w e w' := by
  have hmm := @run_makeMap Try.prog
  have HV : Hid (∀ W, Below w.heap.size w W → Rw W v (toZ L)) := fun W b => hv.below b
  have h2 := hL.two
  have h16 := hL.le
  have hm15 := hL.few
  obtain ⟨a, cap, rfl, -⟩ := hv
  rw [toZ_len]
  obtain ⟨m, Hm⟩ : ∃ m, Hid (L.length = m) := ⟨_, rfl⟩
  have HLK : Hid (Lkd n L) := hL
  have HMA : Hid (∀ B m' D e w', e = .returned (.tuple #[.map (some B), .bool true]) → w.heap.size ≤ B → m' ≤ 999 → World.ownsMap w' Try.prog 50 (plainElem Try.prog 3) B m' D → MpIs kP POk D (mtA L n m) → NoTw L n m → Below w.heap.size w w' → MeetAns n L w e w') := fun B m' D e w' h1 h2 h3 h4 h5 h6 h7 => .inl ⟨B, m', D, h1, h2, h3, h4, by rw [Hm.out]; exact h5, by rw [Hm.out]; exact h6, h7⟩
  have HMB : Hid (∀ e w', e = .returned (.tuple #[.map none, .bool false]) → ¬ NoTw L n m → Below w.heap.size w w' → MeetAns n L w e w') := fun e w' h1 h2 h3 => .inr ⟨h1, by rw [Hm.out]; exact h2, h3⟩
  rw [Hm.out] at hm15
  rw [Hm.out]
  have hb0 := balloc w (.map #[] 0)
  have hown0 : (w.alloc (.map #[] 0)).ownsMap Try.prog 50 (plainElem (H := Unit) Try.prog 3) w.heap.size 0 (.map []) := World.ownsMap_made _ _ _ _
  clear hL
  go_enter Try.func27, Try.ntmps27
  go_wp2
  go_loopw [15] (fun iv wr => ∃ (i : Nat) (cnt : Nat) (D : DataW Unit), iv = .int .i64 (i : Int) ∧ i ≤ m ∧ wr.ownsMap Try.prog 50 (plainElem Try.prog 3) w.heap.size cnt D ∧ Hid (MpIs kP POk D (mtA L n i) ∧ cnt = (mtA L n i).length ∧ NoTw L n i) ∧ Below w.heap.size w wr) (fun iv _ => (m - intOf iv).toNat)
  case atStart => exact ⟨0, 0, .map [], rfl, by omega, hown0, ⟨MpIs.empty _ _, rfl, fun x y a h => by omega⟩, hb0⟩
  case round =>
    clear hown0 hb0
    obtain ⟨i, cnt, D, rfl, hi, hown, HI, hB⟩ := hrel
    by_cases hlt : i < m
    · have hdi : decide ((i : Int) < (m : Int)) = true := by simp; omega
      have hii : (i : Int) < (m : Int) := by omega
      have hLi : i < L.length := by rw [Hm.out]; exact hlt
      obtain ⟨b, off, u, rfl, hc, hs⟩ := (HV.out wr hB).at (toZ_at hLi) rfl
      have hlen := HLK.out.len i hLi
      have hsn : ((L.getD i []).map Int.ofNat).length = n := by rw [List.length_map]; exact hlen
      obtain ⟨g1, o1, c1, rfl, _, hk1⟩ := hs.form hsn (by omega)
      obtain ⟨l, Hl⟩ : ∃ l, Hid (L.getD i [] = l) := ⟨_, rfl⟩
      have HRN : Hid (∀ x, x < n → l.getD x 0 < n ∧ l.getD x 0 ≠ x) := fun x hx => by
        have h := HLK.out.rnd i hLi x hx
        rw [Hl.out] at h
        exact ⟨h.1, h.2.1⟩
      have HC : Hid (∀ W, Below wr.heap.size wr W → ∀ x, x < n → W.cell? ⟨g1, o1 + x, none⟩ = some (.int .i64 ((l.getD x 0 : Nat) : Int))) := fun W bW x hx => by
        have h := hk1 x hx
        rw [nat_at, Hl.out] at h
        exact (bW.cell (World.block_lt_of_cell? _ _ h)).trans h
      obtain ⟨w1, hw1⟩ : ∃ w1 : World, w1 = wr := ⟨_, rfl⟩
      subst hw1
      have HB1 : Hid (Below w.heap.size w w1) := hB
      have HSZ : Hid (w.heap.size ≤ w1.heap.size) := hB.size
      clear hs hk1 hlen hsn hB
      go_wp2
      go_loopw [22] (fun kv wr => ∃ (k : Nat) (cnt : Nat) (D : DataW Unit), kv = .int .i64 (k : Int) ∧ k ≤ n ∧ wr.ownsMap Try.prog 50 (plainElem Try.prog 3) w.heap.size cnt D ∧ Hid (MpIs kP POk D (mtA L n i ++ mtE i l k) ∧ cnt = (mtA L n i ++ mtE i l k).length ∧ NoTw2 L i k) ∧ Hid (NoTw L n i) ∧ Below w.heap.size w wr ∧ Hid (∀ x, x < n → wr.cell? ⟨g1, o1 + x, none⟩ = some (.int .i64 ((l.getD x 0 : Nat) : Int)))) (fun kv _ => (n - intOf kv).toNat)
      case atStart => exact ⟨0, cnt, D, rfl, by omega, hown, ⟨by rw [mtE_zero, List.append_nil]; exact HI.out.1, by rw [mtE_zero, List.append_nil]; exact HI.out.2.1, fun y a h1 h2 => by omega⟩, HI.out.2.2, HB1.out, HC.out w1 (Below.refl _ _)⟩
      case round =>
        clear hown
        obtain ⟨k, cnt, D, rfl, hk, hown, HI2, HNT, hB, HCW⟩ := hrel
        by_cases hlk : k < n
        · have hdk : decide ((k : Int) < (n : Int)) = true := by simp; omega
          have hki : (k : Int) < (n : Int) := by omega
          have hck := HCW.out k hlk
          obtain ⟨hyn, hyk⟩ := HRN.out k hlk
          obtain ⟨y, Hy⟩ : ∃ y, Hid (l.getD k 0 = y) := ⟨_, rfl⟩
          rw [Hy.out] at hck hyn hyk
          by_cases hky : y < k
          · have hdy : decide ((y : Int) < (k : Int)) = true := by simp; omega
            have hdyn : decide (y < k) = true := by simp; omega
            have HI3 : Hid (MpIs kP POk D (mtA L n i ++ mtE i l (k + 1)) ∧ cnt = (mtA L n i ++ mtE i l (k + 1)).length ∧ NoTw2 L i (k + 1)) := by
              show _ ∧ _ ∧ _
              rw [mtE_skip (by rw [Hy.out]; exact hky)]
              refine ⟨HI2.out.1, HI2.out.2.1, fun y' a h1 h2 h3 => ?_⟩
              by_cases e : a = k
              · subst e
                rw [Hl.out, Hy.out] at h3
                omega
              · exact HI2.out.2.2 y' a h1 (by omega) h3
            clear HI2 HI hyk hky
            go_wp2
            go_roundw
            case rel => exact ⟨k + 1, cnt, D, by go_num, by omega, hown, HI3, HNT, hB, HCW⟩
            case measure => simp [intOf]; omega
          · have hdy : decide ((y : Int) < (k : Int)) = false := by simp; omega
            have hdyn : decide (y < k) = false := by simp; omega
            have hok : POk (k, y) := ⟨show k ≤ 99 by omega, show y ≤ 99 by omega⟩
            have hkey := kP_of hok
            unfold pV at hkey
            dsimp only at hkey
            have hhas := HI2.out.1.has_iff keyFP hok
            have hth := key_there (L := L) (n := n) (i := i) hlk (by rw [Hl.out, Hy.out]; omega)
            rw [Hl.out, Hy.out] at hth
            have hal := balloc wr (.cells #[.int .i64 (k : Int), .int .i64 (y : Int)] 50)
            have hownA := hown.alloc (.cells #[.int .i64 (k : Int), .int .i64 (y : Int)] 50)
            have hB2 : Below w.heap.size w (wr.alloc (.cells #[.int .i64 (k : Int), .int .i64 (y : Int)] 50)) := hB.trans (hal.mono hB.size)
            have HCW2 : Hid (∀ x, x < n → (wr.alloc (.cells #[.int .i64 (k : Int), .int .i64 (y : Int)] 50)).cell? ⟨g1, o1 + x, none⟩ = some (.int .i64 ((l.getD x 0 : Nat) : Int))) := fun x hx => (hal.cell (World.block_lt_of_cell? _ _ (HCW.out x hx))).trans (HCW.out x hx)
            by_cases hin : ∃ y', y' < i ∧ y = (L.getD y' []).getD k 0
            · have hh : Maps.has D (kP (k, y)) = true := hhas.2 (hth.2 hin)
              have HNo : Hid (¬ NoTw L n m) := fun h => by
                obtain ⟨y', h1, h2⟩ := hin
                exact h i y' k hlt h1 hlk (by rw [Hl.out, Hy.out]; exact h2)
              clear HI2 HI hyk hky hin hth hhas hok hal HCW HCW2 hown
              go_wp2_with (first
                | (at_lookup; refine wpList_lookup_own_ok_int _ rfl _ _ 40 rfl 50 3 .i64 keyedP undMP und3 (zero3' _) w.heap.size cnt D rfl hownA _ _ rfl hkey ?_; intro c hat hwc; rw [hh])
                | go_in)
              go_ret2
              exact HMB.out _ _ rfl HNo.out hB2
            · have hnk : (k, y) ∉ (mtA L n i ++ mtE i l k).map Prod.fst := fun h => hin (hth.1 h)
              have hh : Maps.has D (kP (k, y)) = false := by
                rw [Bool.eq_false_iff]
                exact fun h => hnk (hhas.1 h)
              have HI3 : Hid (MpIs kP POk (D.put (kP (k, y)) (.lit (.int .i64 (i : Int)))) (mtA L n i ++ mtE i l (k + 1)) ∧ cnt + 1 = (mtA L n i ++ mtE i l (k + 1)).length ∧ NoTw2 L i (k + 1)) := by
                show _ ∧ _ ∧ _
                rw [mtE_more (by rw [Hy.out]; omega), Hy.out, ← List.append_assoc]
                refine ⟨HI2.out.1.put keyFP (hown.tidy keyedP) hok hnk _, by rw [List.length_append (bs := [_]), ← HI2.out.2.1]; rfl, fun y' a h1 h2 h3 => ?_⟩
                by_cases e : a = k
                · subst e
                  rw [Hl.out, Hy.out]
                  exact fun e => hin ⟨y', h1, e⟩
                · exact HI2.out.2.2 y' a h1 (by omega) h3
              have hcn : cnt ≤ 999 := by
                have h := mtI_len HLK.out (by rw [Hm.out]; exact hi) hk l
                rw [← HI2.out.2.1] at h
                exact h
              clear HI2 HI hyk hky hin hth hhas hok hal HCW hown hnk
              go_wp2_with (first
                | (at_lookup; refine wpList_lookup_own_ok_int _ rfl _ _ 40 rfl 50 3 .i64 keyedP undMP und3 (zero3' _) w.heap.size cnt D rfl hownA _ _ rfl hkey ?_; intro c hat hwc; rw [hh]; clear hat hwc)
                | (at_mapUpdate; refine wpList_mapUpdate_own _ rfl _ _ _ 40 rfl 50 3 keyedP undMP _ w.heap.size _ _ rfl hownA (by unfold maxLen; omega) _ _ _ rfl rfl hkey _ [] (plainElem_int und3 (WalkArith.wf_i64 (by omega))) ?_; intro w4 hown4 hg4; go_frame)
                | go_in)
              have hB4 : Below w.heap.size w w4 := hB2.grown hg4 hB2.size (fun j hj => by cases hj; exact Nat.le_refl _)
              have HCW4 : Hid (∀ x, x < n → w4.cell? ⟨g1, o1 + x, none⟩ = some (.int .i64 ((l.getD x 0 : Nat) : Int))) := fun x hx => cell_grown hownA hg4 (HCW2.out x hx)
              go_roundw
              case rel => exact ⟨k + 1, cnt + 1, _, by go_num, by omega, hown4, HI3, HNT, hB4, HCW4⟩
              case measure => simp [intOf]; omega
        · have hdk : decide ((k : Int) < (n : Int)) = false := by simp; omega
          have hdkn : decide (k < n) = false := by simp; omega
          obtain rfl : k = n := by omega
          have HI3 : Hid (MpIs kP POk D (mtA L k (i + 1)) ∧ cnt = (mtA L k (i + 1)).length ∧ NoTw L k (i + 1)) := by
            show _ ∧ _ ∧ _
            rw [mtA_more, Hl.out]
            exact ⟨HI2.out.1, HI2.out.2.1, HNT.out.more (fun j hj => HLK.out.rnd j (by rw [Hm.out]; omega)) HI2.out.2.2⟩
          clear HI2 HI
          go_wp2
          go_roundw
          case rel => exact ⟨i + 1, cnt, D, by go_num, by omega, hown, HI3, hB⟩
          case measure => simp [intOf]; omega
    · have hdi : decide ((i : Int) < (m : Int)) = false := by simp; omega
      have hdin : decide (i < m) = false := by simp; omega
      obtain rfl : i = m := by omega
      go_wp2
      go_ret2
      exact HMA.out _ _ _ _ _ rfl (Nat.le_refl _) (by have := mtA_len L n i; have : n * i ≤ 16 * 15 := Nat.mul_le_mul h16 hm15; have := HI.out.2.1; omega) hown HI.out.1 HI.out.2.2 hB
end Go.Proofs.Ytpeplnojmogkfaa
