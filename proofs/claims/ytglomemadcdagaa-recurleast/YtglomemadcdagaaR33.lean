/- The walks of shortest and Least: Berlekamp's and Massey's way. -/
import Derived.Test.YtglomemadcdagaaR41
namespace Go.Proofs.Ytglomemadcdagaa
open Go.RowKit

theorem inf66 : (Try.prog.info? 66).map (·.size) = some 3 := by kernel_rfl
theorem und66 : ∃ fs, Try.prog.underlying 66 = some (.struct fs) := by
  have h2 : (match Try.prog.underlying 66 with | some (.struct _) => true | _ => false) = true := by kernel_rfl
  split at h2
  · rename_i fs e; exact ⟨fs, e⟩
  · cases h2
theorem one3 (v : Value) (a m : Int) (h : v.oneCell' = true) : (#[v, Value.int .i64 a, Value.int .i64 m] : Array Value).all (·.oneCell') = true := by cases v <;> simp_all [Value.oneCell']
theorem SB.whole {w : World} {g : Nat} {v : Value} {a m : Int} (h : SB w g v a m) (v' : Value) (a' m' : Int) : SB (w.setRow g #[v', .int .i64 a', .int .i64 m']) g v' a' m' := setRow_heap w g _ _ _ _ h

theorem slSetRow {w : World} {v : Value} {l : List Int} {g : Nat} (h : Sl w v l) (hne : ∀ b off n c, v = .slice (some ⟨b, off, none⟩) n c → b ≠ g) (cs : Array Value) : Sl (w.setRow g cs) v l := by
  obtain ⟨a, cap, rfl, hc⟩ := h
  refine ⟨a, cap, rfl, fun j hj => ?_⟩
  obtain ⟨b, off, e, hcj⟩ := hc j hj
  subst e
  exact ⟨b, off, rfl, (World.cell?_of_block (a := ⟨b, off + j, none⟩) (setRow_other w g b cs (hne b off _ cap rfl))).trans hcj⟩

/-- The shortest taps: they make the row, and none that do are shorter. -/
def LeastTaps (p : Int) (S T : List Int) : Prop := belB p T = true ∧ T.length ≤ S.length ∧ Makes p T (fun j => S.getD j 0) S.length ∧ ∀ U, Makes p U (fun j => S.getD j 0) S.length → T.length ≤ U.length

set_option maxHeartbeats 4000000 in
theorem shortest_any (P : Nat) (S : List Int) (u : Value) (w : World) (hs : smB (P : Int) = true) (hu : Sl w u S) (hbS : belB P S = true) (hS : S.length ≤ 60) :
    Calls Try.prog 33 #[.int .i64 (P : Int), u] w fun e w' => ∃ (v : Value) (T : List Int), e = .returned v ∧ Sl w' v T ∧ LeastTaps P S T ∧ Below w.heap.size w w' := by
  have hpb := smB_bd hs
  have hp : 2 ≤ P ∧ P ≤ 7 := by omega
  obtain ⟨n, Hn⟩ : ∃ n : Nat, Hid (S.length = n) := ⟨_, rfl⟩
  have hn : n ≤ 60 := by rw [← Hn.out]; exact hS
  obtain ⟨ua, uc, rfl, _⟩ := id hu
  obtain ⟨f, Hf⟩ : ∃ f : Nat → Int, Hid (f = fun j => S.getD j 0) := ⟨_, rfl⟩
  have C1 : ∀ A T v (i : Nat), Below w.heap.size w A → Sl A v T → belB P T = true → i < n → T.length ≤ i → Calls Try.prog 40 #[.int .i64 (P : Int), v, .slice ua n uc, .int .i64 (i : Int)] A fun e B => ∃ m : Nat, e = .returned (.int .i64 (m : Int)) ∧ m < P ∧ Hid ((P : Int) ∣ f i - dot T f i - m) ∧ B = A := by
    intro A T v i hA hv hb hi hT
    have h := missing_any P i T S v _ A hs hv (hu.below hA) hb hbS (by rw [Hn.out]; exact hi) hT hS
    rw [Hn.out] at h
    rw [Hf.out]; exact h
  rw [Hn.out]
  have hB1 := balloc w (.cells #[.slice none 0 0, .int .i64 (-1), .int .i64 1] 66)
  have hS1 := SB.made w (.slice none 0 0) (-1) 1
  have hS0 := SB.made w (.slice none 0 0) 0 0
  clear hpb
  go_enter Try.func33, Try.ntmps33
  go_wp2_with (first
    | (refine wpList_store_row rfl 66 _ _ rfl w.heap.size #[.slice none 0 0, .int .i64 (-1), .int .i64 1] rfl rfl 66 _ hS0 inf66 rfl (one3 _ _ _ rfl) ?_))
  have hBM0 : BM P f 0 [] [] 0 1 := BM.start (by omega) f
  have HBM0 : Hid (BM P f 0 [] [] 0 1) := hBM0
  have HV0 : Hid (∀ b off n' c', Value.slice none 0 0 = .slice (some ⟨b, off, none⟩) n' c' → b ≠ w.heap.size) := by
    intro b off n' c' e
    cases e
  clear hBM0
  go_loopw [5, 13] (fun v c wr => ∃ (t h d : Nat) (T H : List Int) (uH : Value), c = .int .i64 t ∧ t ≤ n ∧ Hid (∀ b off n' c', v = .slice (some ⟨b, off, none⟩) n' c' → b ≠ w.heap.size) ∧ Sl wr v T ∧ Sl wr uH H ∧ SB wr w.heap.size uH ((h : Int) - 1) d ∧ Hid (BM P f t T H h d) ∧ Below w.heap.size w wr) (fun _ c _ => (n - intOf c).toNat)
  case atStart =>
    first
      | exact ⟨0, 0, 1, [], [], .slice none 0 0, rfl, by omega, HV0, Sl.nil _, Sl.nil _, hS1, HBM0, hB1⟩
      | exact ⟨0, 0, 1, [], [], .slice none 0 0, rfl, by omega, HV0, Sl.nil _, Sl.nil _, hS0.whole _ _ _, HBM0, bsetRow (balloc w _) (Nat.le_refl _) _⟩
  case round =>
    obtain ⟨t, h, d, T, H, uH, rfl, ht, HVA, hT, hH, hSB, HBM, hB⟩ := hrel
    by_cases hlt : t < n
    · have hti : (t : Int) < n := by omega
      have hBM := HBM.out
      have hTt := hBM.len
      have hdd := hBM.miss
      have hhl : h ≤ t ∧ H.length ≤ 60 := by
        rcases hBM.help with ⟨e1, e2, _⟩ | ⟨e1, e2, e3, _⟩
        · rw [e1, e2]; simp
        · omega
      have hbT := hBM.bT
      have hbH := hBM.bH
      clear hBM
      have R1 := C1 wr T _ t hB hT hbT hlt hTt
      obtain ⟨va, vc, rfl, _⟩ := id hT
      obtain ⟨ha, hc, rfl, _⟩ := id hH
      go_wp2_with fail
      refine R1.mono ?_
      rintro e w1 ⟨m, rfl, hmP, HM, hw⟩
      replace hw := hw.symm
      subst hw
      by_cases hm0 : m = 0
      · subst hm0
        have HB' : Hid (BM P f (t + 1) T H h d) := HBM.out.go (by
          have h1 := HM.out
          rw [show f t - dot T f t - ((0 : Nat) : Int) = f t - dot T f t by omega] at h1; exact h1)
        go_wp2
        go_roundw
        case rel => exact ⟨t + 1, h, d, T, H, _, by go_num, by omega, HVA, hT, hH, hSB, HB', hB⟩
        case measure => simp [intOf]; omega
      · have hmd : ((m : Int) == 0) = false := by simp; omega
        obtain ⟨N, HN⟩ : ∃ N : Nat, Hid (N = max T.length (t + 1 - h + H.length)) := ⟨_, rfl⟩
        have hN9 : N ≤ 200 := by rw [HN.out]; omega
        have R2 := mend_any P t h m d T H _ _ wr hs hT hH hbT hbH (by omega) hhl.2 (by omega) hhl.1 ⟨by omega, hmP⟩ ⟨by omega, by omega⟩ N HN
        obtain ⟨k, Hk⟩ : ∃ k : Nat, Hid (T.length = k) := ⟨_, rfl⟩
        have hk : k ≤ 60 := by rw [← Hk.out]; omega
        have hT' := hT
        have HVA' := HVA
        rw [Hk.out] at R2 hT' HVA' ⊢
        go_wp2_with (first
          | (refine wpList_load_row rfl 66 _ rfl w.heap.size rfl 66 _ (0, 0) _ hSB und66.choose_spec rfl inf66 ?_))
        refine R2.mono ?_
        rintro e w2 ⟨g, o, rfl, hg, hO2, hod, hb2⟩
        have HOD : Hid ((P : Int) ∣ o * d - m) := hod
        clear hod
        have hLen : (mendL P T H (t + 1 - h) o).length = N := by rw [mendL_len, HN.out]
        have hS2 : Sl w2 (.slice (some ⟨g, 0, none⟩) N N) (mendL P T H (t + 1 - h) o) := by
          have h1 := hO2.sl N
          have e1 : (List.range N).map (mendF P T H (t + 1 - h) o) = mendL P T H (t + 1 - h) o := by unfold mendL; rw [← HN.out]
          rw [e1] at h1; exact h1
        have hB2 := hB.trans (hb2.mono hB.size)
        have hSB2 := hSB.below hb2
        have HVG : Hid (∀ b off n' c', Value.slice (some ⟨g, 0, none⟩) N N = .slice (some ⟨b, off, none⟩) n' c' → b ≠ w.heap.size) := by
          intro b off n' c' e
          have hlt0 := hSB.lt
          simp only [Value.slice.injEq, Option.some.injEq, Addr.mk.injEq] at e
          omega
        by_cases hgt : k < N
        · have hd1 : decide ((k : Int) < (N : Int)) = true := by simp; omega
          have HB' : Hid (BM P f (t + 1) (mendL P T H (t + 1 - h) o) T (t + 1) m) := HBM.out.grow (by omega) HM.out ⟨by omega, by omega⟩ HOD.out (by rw [hLen, Hk.out]; exact hgt)
          have hSB3 := hSB2.whole (.slice va k vc) t m
          have hB3 : Below w.heap.size w (w2.setRow w.heap.size #[.slice va k vc, .int .i64 (t : Int), .int .i64 (m : Int)]) := bsetRow hB2 (Nat.le_refl _) _
          clear hLen
          go_wp2_with (first
            | (refine wpList_store_row rfl 66 _ _ rfl w.heap.size #[.slice va k vc, .int .i64 (t : Int), .int .i64 (m : Int)] rfl rfl 66 _ hSB2 inf66 rfl (one3 _ _ _ rfl) ?_))
          go_roundw
          case rel =>
            have hsT : Sl (w2.setRow w.heap.size #[.slice va k vc, .int .i64 (t : Int), .int .i64 (m : Int)]) (.slice (some ⟨g, 0, none⟩) N N) (mendL P T H (t + 1 - h) o) := slSetRow hS2 HVG.out _
            have hsH : Sl (w2.setRow w.heap.size #[.slice va k vc, .int .i64 (t : Int), .int .i64 (m : Int)]) (.slice va k vc) T := slSetRow (hT'.below hb2) HVA'.out _
            exact ⟨t + 1, t + 1, m, _, T, _, by go_num, by omega, HVG, hsT, hsH, by rw [show ((t + 1 : Nat) : Int) - 1 = (t : Int) by omega]; exact hSB3, HB', hB3⟩
          case measure => simp [intOf]; omega
        · have hd1 : decide ((k : Int) < (N : Int)) = false := by simp; omega
          have HB' : Hid (BM P f (t + 1) (mendL P T H (t + 1 - h) o) H h d) := HBM.out.keep (by omega) HM.out ⟨by omega, by omega⟩ HOD.out (by rw [hLen, Hk.out]; omega)
          clear hLen
          go_wp2
          go_roundw
          case rel => exact ⟨t + 1, h, d, _, H, _, by go_num, by omega, HVG, hS2, hH.below hb2, hSB2, HB', hB2⟩
          case measure => simp [intOf]; omega
    · obtain rfl : t = n := by omega
      obtain ⟨va, vc, rfl, _⟩ := id hT
      go_wp2
      go_ret
      have hBM := HBM.out
      rw [Hf.out] at hBM
      refine ⟨_, T, rfl, hT, ⟨hBM.bT, ?_, ?_, ?_⟩, hB⟩
      · rw [Hn.out]; exact hBM.len
      · rw [Hn.out]; exact hBM.makes
      · rw [Hn.out]; exact hBM.least

/-- What Least tells ahead of looking. -/
def leastZ (p : Int) (S : List Int) : Int := if smB p = false then 1 else if 60 < S.length then 3 else if belB p S = false then 1 else 0

set_option maxHeartbeats 2000000 in
theorem Least_ok (P : Nat) (S : List Int) (u : Value) (w : World) (hs : smB (P : Int) = true) (hu : Sl w u S) (hbS : belB P S = true) (hS : S.length ≤ 60) :
    Calls Try.prog 17 #[.int .i64 (P : Int), u] w fun e w' => ∃ (v : Value) (T R : List Int), e = .returned (.tuple #[.int .i64 (T.length : Int), v, .int .i64 0]) ∧ Sl w' v R ∧ LeastTaps P S T ∧ (2 * T.length ≤ S.length → R = T) ∧ (S.length < 2 * T.length → R = []) ∧ Below w.heap.size w w' := by
  have C1 := fun A => isPrime_any (P : Int) A
  rw [hs] at C1
  have C2 := allBelow_any S u P w hu (by unfold maxLen; omega)
  rw [hbS] at C2
  have C3 := shortest_any P S u w hs hu hbS hS
  obtain ⟨ua, uc, rfl, _⟩ := id hu
  have hd : decide ((60 : Int) < (S.length : Int)) = false := by simp; omega
  obtain ⟨n, Hn⟩ : ∃ n : Nat, Hid (S.length = n) := ⟨_, rfl⟩
  have hn : n ≤ 60 := by rw [← Hn.out]; exact hS
  rw [Hn.out] at C2 C3 hd ⊢
  go_enter Try.func17, Try.ntmps17
  go_wp2_with (first
    | (go_at_call 31; refine (C1 _).mono ?_; rintro e w1 ⟨rfl, hw⟩; replace hw := hw.symm; subst hw)
    | (go_at_call 32; refine C2.mono ?_; rintro e w1 ⟨rfl, hw⟩; replace hw := hw.symm; subst hw))
  refine C3.mono ?_
  rintro e w2 ⟨v, T, rfl, hT, hL, hb2⟩
  have HL : Hid (LeastTaps P S T) := hL
  obtain ⟨k, Hk⟩ : ∃ k : Nat, Hid (T.length = k) := ⟨_, rfl⟩
  have hk : k ≤ n := by rw [← Hk.out, ← Hn.out]; exact hL.2.1
  clear hL
  obtain ⟨va, vc, rfl, _⟩ := id hT
  rw [Hk.out]
  by_cases hc : n < 2 * k
  · have hdc : decide ((n : Int) < 2 * (k : Int)) = true := by simp; omega
    go_wp2
    exact bodyPost_ret (v := .tuple #[.int .i64 (k : Int), .slice none 0 0, .int .i64 0]) (by simp [results, Try.results17, go_sem]) rfl ⟨_, T, [], by rw [Hk.out], Sl.nil _, HL.out, fun h => by rw [Hk.out] at h; omega, fun _ => rfl, hb2⟩
  · have hdc : decide ((n : Int) < 2 * (k : Int)) = false := by simp; omega
    have hT' := hT
    rw [Hk.out] at hT'
    go_wp2
    exact bodyPost_ret (v := .tuple #[.int .i64 (k : Int), .slice va k vc, .int .i64 0]) (by simp [results, Try.results17, go_sem]) rfl ⟨_, T, T, by rw [Hk.out], hT', HL.out, fun _ => rfl, fun h => by rw [Hk.out] at h; omega, hb2⟩

end Go.Proofs.Ytglomemadcdagaa
