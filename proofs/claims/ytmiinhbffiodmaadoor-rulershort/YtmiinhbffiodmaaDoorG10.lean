/- The walks of firstUpTo, shortest and Best. -/
import Derived.Test.YtmiinhbffiodmaaDoorG9
import Derived.Test.YtmiinhbffiodmaaDoorR7
namespace Go.Proofs.YtmiinhbffiodmaaDoor
open Go.RowKit Go.Maps

theorem grows_any (base g m br bn bl bw n long : Nat) (h7 : n ≤ 7) (hlong : long ≤ 25) : ∀ f, f ≤ 6 → GroP base g m br bn bl bw n long f
  | 0, _ => fun l x0 c w he _ _ _ _ hE hR => grows_full base g m br bn bl bw n long 0 l x0 c w he hE hR
  | f + 1, hf => grows_more base g m br bn bl bw n long f (grows_any base g m br bn bl bw n long h7 hlong f (by omega)) h7 hlong hf
theorem golB_nil : golB [] = true := by decide +kernel
theorem newRow_marks (w : World) : Calls Tryd.prog 38 #[.func (.func 32) #[] #[]] w fun e w' => e = .returned (.pointer (some ⟨w.heap.size + 1, 0, none⟩)) ∧ RM w' w.heap.size (w.heap.size + 1) w.heap.size [] 0 ∧ Below w.heap.size w w' := by
  refine (newRow_any 32 w).mono ?_
  rintro e w' ⟨rfl, h1, h2⟩
  refine ⟨rfl, ⟨0, Nat.le_refl _, ?_⟩, h2⟩
  rw [List.map_nil, TG_nil]
  exact h1
/-- What firstUpTo hands out. -/
def FuP (r : Option (List Nat)) (n : Nat) (w : World) (e : Ending) (w' : World) : Prop :=
  ((r = none ∧ e = .returned (.slice none 0 0)) ∨ ∃ out b cap, r = some out ∧ e = .returned (.slice (some ⟨b, 0, none⟩) n cap) ∧ out.length = n ∧ ORo w' w.heap.size (.slice (some ⟨b, 0, none⟩) n cap) out) ∧ Below w.heap.size w w'
theorem RM.take {w : World} {base g m c n : Nat} {out : List Nat} (h : RM w base g m out c) (hn : out.length = n) (h1 : 1 ≤ n) : ∃ b cap, w.cell? ⟨g, 0, none⟩ = some (.slice (some ⟨b, 0, none⟩) n cap) ∧ ORo w base (.slice (some ⟨b, 0, none⟩) n cap) out := by
  obtain ⟨c', h1', h2⟩ := h
  obtain ⟨v, h3, h4⟩ := h2.box
  rw [List.length_map, hn] at h4
  obtain ⟨k1, ⟨k2, k3⟩ | ⟨b, cap, cur, rfl, kr⟩⟩ := id h4
  · omega
  · refine ⟨b, cap, ?_, ?_⟩
    · rw [cell_of_row w g 0 _ _ _ h3]; rfl
    · unfold ORo
      rw [hn]
      exact h4
set_option maxRecDepth 100000 in
set_option maxHeartbeats 8000000 in
theorem firstUpTo_any (n long : Nat) (w : World) (h1 : 1 ≤ n) (h7 : n ≤ 7) (hlong : long ≤ 25) :
    Calls Tryd.prog 48 #[.int .i64 (n : Int), .int .i64 (long : Int)] w (FuP (gS (n - 1) n long [0] 1) n w) := by
  obtain ⟨B, HB⟩ : ∃ B, Hid (w.heap.size = B) := ⟨_, rfl⟩
  obtain ⟨W0, HW0⟩ : ∃ W0, Hid ((w.alloc (.cells #[.int .i64 (n : Int)] 3)).alloc (.cells #[.int .i64 (long : Int)] 3) = W0) := ⟨_, rfl⟩
  have hs0 : W0.heap.size = B + 1 + 1 := by rw [← HW0.out, ← HB.out]; simp
  have hn0 : W0.heap[B]? = some (.cells #[.int .i64 (n : Int)] 3 (0, 0)) := by
    rw [← HW0.out, ← HB.out]
    exact (((Below.refl _ _).alloc (Nat.le_refl _) _).block w.heap.size (by simp)).trans (heap_alloc_new w _)
  have hl0 : W0.heap[B + 1]? = some (.cells #[.int .i64 (long : Int)] 3 (0, 0)) := by
    have := heap_alloc_new (w.alloc (.cells #[.int .i64 (n : Int)] 3)) (.cells #[.int .i64 (long : Int)] 3)
    rw [World.size_alloc, HW0.out, HB.out] at this
    exact this
  have hB0 : Below w.heap.size w W0 := by
    rw [← HW0.out]
    exact ((Below.refl _ w).alloc (Nat.le_refl _) _).alloc (by simp) _
  have HN := newRow_marks W0
  rw [hs0, ← HW0.out] at HN
  have HNEW : Hid (Calls Tryd.prog 38 #[.func (.func 32) #[] #[]] ((w.alloc (.cells #[.int .i64 (n : Int)] 3)).alloc (.cells #[.int .i64 (long : Int)] 3)) fun e w' => e = .returned (.pointer (some ⟨B + 1 + 1 + 1, 0, none⟩)) ∧ RM w' (B + 1 + 1) (B + 1 + 1 + 1) (B + 1 + 1) [] 0 ∧ Below (B + 1 + 1) ((w.alloc (.cells #[.int .i64 (n : Int)] 3)).alloc (.cells #[.int .i64 (long : Int)] 3)) w') := HN
  have HPUT : Hid (∀ W, RM W (B + 1 + 1) (B + 1 + 1 + 1) (B + 1 + 1) [] 0 → Calls Tryd.prog 39 #[.pointer (some ⟨B + 1 + 1 + 1, 0, none⟩), .int .i64 0] W fun e w' => e = .returned (.bool true) ∧ RM w' (B + 1 + 1) (B + 1 + 1 + 1) (B + 1 + 1) [0] 7 ∧ Kr (B + 1 + 1) (B + 1 + 1 + 1) W w') := fun W hW => by
    have h := put_marks (B + 1 + 1) (B + 1 + 1 + 1) (B + 1 + 1) 0 [] 0 W hW golB_nil (by omega) (fun y hy => by cases hy) (by simp) (by omega)
    rw [List.nil_append, golB_one] at h
    exact h
  have HGR : Hid (∀ (br bw : Nat) (W : World), SEnv W (B + 1 + 1) (B + 1 + 1 + 1) br B (B + 1) bw n long → RM W (B + 1 + 1) (B + 1 + 1 + 1) (B + 1 + 1) [0] 7 → Calls Tryd.prog 52 #[.int .i64 1, .pointer (some ⟨br, 0, none⟩), .pointer (some ⟨B, 0, none⟩), .pointer (some ⟨B + 1, 0, none⟩), .pointer (some ⟨bw, 0, none⟩)] W fun e w' =>
      e = .returned (.bool (gS (n - 1) n long [0] 1).isSome) ∧ RM w' (B + 1 + 1) (B + 1 + 1 + 1) (B + 1 + 1) ((gS (n - 1) n long [0] 1).getD [0]) (7 + KB (n - 1)) ∧ Kr (B + 1 + 1) (B + 1 + 1 + 1) W w') := fun br bw W hW hR => by
    have := KB_6 (show n - 1 ≤ 6 by omega)
    exact grows_any (B + 1 + 1) (B + 1 + 1 + 1) (B + 1 + 1) br B (B + 1) bw n long h7 hlong (n - 1) (by omega) [0] 1 7 W (by simp; omega) golB_one (by simp) (by omega) (by omega) hW hR
  have HLEN : Hid (∀ out, gS (n - 1) n long [0] 1 = some out → out.length = n) := fun out h => (gS_some _ _ _ _ _ _ (List.pairwise_singleton _ _) (by simp) rfl golB_one (by simp) (by simp) h).2.2.2.1
  obtain ⟨r, Hr⟩ : ∃ r, Hid (gS (n - 1) n long [0] 1 = r) := ⟨_, rfl⟩
  rw [Hr.out] at HGR HLEN ⊢
  have HENV : Hid (∀ (w1 w2 : World), Below (B + 1 + 1) ((w.alloc (.cells #[.int .i64 (n : Int)] 3)).alloc (.cells #[.int .i64 (long : Int)] 3)) w1 → RM w1 (B + 1 + 1) (B + 1 + 1 + 1) (B + 1 + 1) [] 0 → Kr (B + 1 + 1) (B + 1 + 1 + 1) (w1.alloc (.cells #[.pointer (some ⟨B + 1 + 1 + 1, 0, none⟩)] 52)) w2 →
      SEnv (w2.alloc (.cells #[.func (.func 52) #[] #[.pointer (some ⟨w1.heap.size, 0, none⟩), .pointer (some ⟨B, 0, none⟩), .pointer (some ⟨B + 1, 0, none⟩), .pointer (some ⟨w2.heap.size, 0, none⟩)]] 48)) (B + 1 + 1) (B + 1 + 1 + 1) w1.heap.size B (B + 1) w2.heap.size n long ∧ Below (B + 1 + 1) W0 (w2.alloc (.cells #[.func (.func 52) #[] #[.pointer (some ⟨w1.heap.size, 0, none⟩), .pointer (some ⟨B, 0, none⟩), .pointer (some ⟨B + 1, 0, none⟩), .pointer (some ⟨w2.heap.size, 0, none⟩)]] 48))) := fun w1 w2 b1 hR k2 => by
    rw [HW0.out] at b1
    obtain ⟨c', _, hR'⟩ := hR
    obtain ⟨v, hb, _⟩ := hR'.box
    have hgl := blk_lt hb
    have hsz := k2.size
    rw [World.size_alloc] at hsz
    have bA : Below (B + 1 + 1) W0 (w1.alloc (.cells #[.pointer (some ⟨B + 1 + 1 + 1, 0, none⟩)] 52)) := b1.alloc (by omega) _
    have b2 : Below (B + 1 + 1) W0 w2 := bA.trans k2.below
    have b3 := b2.alloc (show B + 1 + 1 ≤ w2.heap.size by omega) (.cells #[.func (.func 52) #[] #[.pointer (some ⟨w1.heap.size, 0, none⟩), .pointer (some ⟨B, 0, none⟩), .pointer (some ⟨B + 1, 0, none⟩), .pointer (some ⟨w2.heap.size, 0, none⟩)]] 48)
    refine ⟨⟨(b3.block B (by omega)).trans hn0, (b3.block (B + 1) (by omega)).trans hl0, ?_, heap_alloc_new w2 _, by omega, by omega, by omega, by omega⟩, b3⟩
    have e1 := heap_alloc_new w1 (.cells #[.pointer (some ⟨B + 1 + 1 + 1, 0, none⟩)] 52)
    have e2 := (k2.cells w1.heap.size _ _ _ e1 (by decide) (by omega)).trans e1
    exact (((Below.refl w2.heap.size w2).alloc (Nat.le_refl _) _).block w1.heap.size (by omega)).trans e2
  have HBB : Hid (∀ W, Below (B + 1 + 1) W0 W → Below w.heap.size w W) := fun W h => hB0.trans (h.mono (by rw [HB.out]; omega))
  have hW0s := HB
  clear hn0 hl0 HN
  unfold FuP
  have hBB := HB.out
  rw [hBB] at HBB hB0 ⊢
  rcases r with _ | out
  · go_enter Tryd.func48, Tryd.ntmps48
    go_wp2_with (first
      | (go_at_call 38; refine HNEW.out.mono ?_; rintro e w1 ⟨rfl, hR1, b1⟩; clear HNEW; have HR1 : Hid (RM w1 (B + 1 + 1) (B + 1 + 1 + 1) (B + 1 + 1) [] 0) := hR1; have HR1a : Hid (RM (w1.alloc (.cells #[.pointer (some ⟨B + 1 + 1 + 1, 0, none⟩)] 52)) (B + 1 + 1) (B + 1 + 1 + 1) (B + 1 + 1) [] 0) := hR1.below (balloc w1 _); have H1 := HENV.out w1; clear hR1)
      | (go_at_call 39; refine (HPUT.out _ HR1a.out).mono ?_; rintro e w2 ⟨rfl, hR2, k2⟩; clear HPUT HR1a; obtain ⟨hE, b3⟩ := H1 w2 b1 HR1.out k2; have C := HGR.out _ _ _ hE (hR2.below (balloc w2 _)); have e4 := hE.at.2.2.2; have HB3 : Hid (Below B w _) := HBB.out _ b3; clear H1 b1 HR1 k2 hE b3 hR2)
      | (go_at_call 52; refine C.mono ?_; rintro e w3 ⟨rfl, hR4, k4⟩; clear C e4; have HB4 : Hid (Below B w w3) := HB3.out.trans (k4.below.mono (by omega)); clear hR4 k4))
    go_ret
    exact ⟨.inl ⟨by first | trivial | rfl, rfl⟩, HB4.out⟩
  · have hlen := HLEN.out out rfl
    have HTK : Hid (∀ W, RM W (B + 1 + 1) (B + 1 + 1 + 1) (B + 1 + 1) out (7 + KB (n - 1)) → ∃ b cap, W.cell? ⟨B + 1 + 1 + 1, 0, none⟩ = some (.slice (some ⟨b, 0, none⟩) n cap) ∧ ORo W B (.slice (some ⟨b, 0, none⟩) n cap) out) := fun W h => by
      obtain ⟨b, cap, q1, q2⟩ := h.take hlen h1
      exact ⟨b, cap, q1, q2.1, q2.2.imp id fun ⟨g', c', cur, e, hb, r⟩ => ⟨g', c', cur, e, by omega, r⟩⟩
    go_enter Tryd.func48, Tryd.ntmps48
    go_wp2_with (first
      | (go_at_call 38; refine HNEW.out.mono ?_; rintro e w1 ⟨rfl, hR1, b1⟩; clear HNEW; have HR1 : Hid (RM w1 (B + 1 + 1) (B + 1 + 1 + 1) (B + 1 + 1) [] 0) := hR1; have HR1a : Hid (RM (w1.alloc (.cells #[.pointer (some ⟨B + 1 + 1 + 1, 0, none⟩)] 52)) (B + 1 + 1) (B + 1 + 1 + 1) (B + 1 + 1) [] 0) := hR1.below (balloc w1 _); have H1 := HENV.out w1; clear hR1)
      | (go_at_call 39; refine (HPUT.out _ HR1a.out).mono ?_; rintro e w2 ⟨rfl, hR2, k2⟩; clear HPUT HR1a; obtain ⟨hE, b3⟩ := H1 w2 b1 HR1.out k2; have C := HGR.out _ _ _ hE (hR2.below (balloc w2 _)); have e4 := hE.at.2.2.2; have HB3 : Hid (Below B w _) := HBB.out _ b3; have HE3 : Hid (SEnv _ (B + 1 + 1) (B + 1 + 1 + 1) w1.heap.size B (B + 1) w2.heap.size n long) := hE; clear H1 b1 HR1 k2 hE b3 hR2)
      | (go_at_call 52; refine C.mono ?_; rintro e w3 ⟨rfl, hR4, k4⟩; clear C e4; have HB4 : Hid (Below B w w3) := HB3.out.trans (k4.below.mono (by omega)); obtain ⟨tb, tcap, tc, hO⟩ := HTK.out w3 hR4; have e3 := (HE3.out.kr k4).at.2.2.1; have HO : Hid (ORo w3 B (.slice (some ⟨tb, 0, none⟩) n tcap) out) := hO; clear hR4 k4 hO HE3 HTK))
    go_ret
    exact ⟨.inr ⟨out, tb, tcap, rfl, rfl, hlen, HO.out⟩, HB4.out⟩
set_option maxRecDepth 100000 in
set_option maxHeartbeats 8000000 in
theorem shortest_any (n : Nat) (w : World) (h1 : 1 ≤ n) (h7 : n ≤ 7) :
    Calls Tryd.prog 35 #[.int .i64 (n : Int)] w fun e w' => ∃ b cap, e = .returned (.slice (some ⟨b, 0, none⟩) n cap) ∧ ORo w' w.heap.size (.slice (some ⟨b, 0, none⟩) n cap) (bestL n) ∧ Below w.heap.size w w' := by
  have hlow := best_low ⟨n, by omega⟩ h1
  have h25 := best_25 ⟨n, by omega⟩
  simp only at hlow h25
  have HSH : Hid (∀ long, long < bestN n → ∀ W : World, Calls Tryd.prog 48 #[.int .i64 (n : Int), .int .i64 (long : Int)] W fun e w' => e = .returned (.slice none 0 0) ∧ Below W.heap.size W w') := fun long hl W => by
    have h := firstUpTo_any n long W h1 h7 (by omega)
    rw [gS_short h1 h7 hl] at h
    refine h.mono ?_
    rintro e w' ⟨⟨_, rfl⟩ | ⟨out, b, cap, e1, _⟩, hb⟩
    · exact ⟨rfl, hb⟩
    · cases e1
  have HBE : Hid (∀ W : World, Calls Tryd.prog 48 #[.int .i64 (n : Int), .int .i64 (bestN n : Int)] W fun e w' => ∃ b cap, e = .returned (.slice (some ⟨b, 0, none⟩) n cap) ∧ ORo w' W.heap.size (.slice (some ⟨b, 0, none⟩) n cap) (bestL n) ∧ Below W.heap.size W w') := fun W => by
    have h := firstUpTo_any n (bestN n) W h1 h7 (by omega)
    rw [gS_best h1 h7] at h
    refine h.mono ?_
    rintro e w' ⟨⟨e1, _⟩ | ⟨out, b, cap, e1, rfl, _, hO⟩, hb⟩
    · cases e1
    · cases e1
      exact ⟨b, cap, rfl, hO, hb⟩
  obtain ⟨L0, HL0⟩ : ∃ L0, Hid (n * (n - 1) / 2 = L0) := ⟨_, rfl⟩
  have hquo : ((n : Int) * ((n : Int) - 1)).tdiv 2 = (L0 : Int) := by
    rw [← HL0.out, show (n : Int) - 1 = ((n - 1 : Nat) : Int) by omega, ← Int.natCast_mul]
    rfl
  have hmul0 : (0 : Int) ≤ (n : Int) * ((n : Int) - 1) := Int.mul_nonneg (by omega) (by omega)
  have hmul1 : (n : Int) * ((n : Int) - 1) ≤ 7 * 6 := Int.mul_le_mul (by omega) (by omega) (by omega) (by omega)
  obtain ⟨P2, HP2⟩ : ∃ P2 : Nat, Hid ((2 : Nat) ^ n = P2) := ⟨_, rfl⟩
  have hpow : (2 : Int) ^ n = (P2 : Int) := by rw [← HP2.out]; simp
  have hP2 : P2 ≤ 128 := by rw [← HP2.out]; exact Nat.pow_le_pow_right (by omega) h7
  rw [HL0.out, HP2.out] at hlow
  obtain ⟨bn, Hbn⟩ : ∃ bn, Hid (bestN n = bn) := ⟨_, rfl⟩
  rw [Hbn.out] at hlow h25 HSH HBE
  obtain ⟨hlow1, hlow2⟩ := hlow
  obtain ⟨B, HB⟩ : ∃ B, Hid (w.heap.size = B) := ⟨_, rfl⟩
  rw [HB.out]
  have HBS : Hid (∀ W W' : World, Below B w W → Below W.heap.size W W' → Below B w W') := fun W W' h h' => h.trans (h'.mono (by rw [← HB.out]; have := h.size; omega))
  have HOS : Hid (∀ (W W' : World) (v : Value), Below B w W → ORo W' W.heap.size v (bestL n) → ORo W' B v (bestL n)) := fun W W' v h hO => ⟨hO.1, hO.2.imp id fun ⟨g', c', cur, e, hb, r⟩ => ⟨g', c', cur, e, Nat.le_trans (by rw [← HB.out]; exact h.size) hb, r⟩⟩
  have hw0 : Below B w w := Below.refl _ _
  have hnn : (n : Int) ≤ 7 := by omega
  go_enter Tryd.func35, Tryd.ntmps35
  go_wp2
  go_loopw [3] (fun xv wr => ∃ x : Nat, xv = .int .i64 (x : Int) ∧ x ≤ bn ∧ Hid (Below B w wr)) (fun xv _ => (200 - intOf xv).toNat)
  case atStart => exact ⟨L0, rfl, hlow1, hw0⟩
  case round =>
    obtain ⟨x, rfl, hx, HBr⟩ := hrel
    have hdx : decide ((x : Int) < (P2 : Int)) = true := by simp; omega
    have hdx' : decide (x < P2) = true := by simp; omega
    have hxp : x < P2 := by omega
    have hxpi : (x : Int) < (P2 : Int) := by omega
    by_cases hlt : x < bn
    · have C := HSH.out x hlt wr
      go_wp2_with (go_at_call 48; refine C.mono ?_; rintro e w1 ⟨rfl, b1⟩; clear C; have HB1 : Hid (Below B w w1) := HBS.out _ _ HBr.out b1; clear b1)
      go_roundw
      case rel => exact ⟨x + 1, by go_num, by omega, HB1⟩
      case measure => simp [intOf]; omega
    · obtain rfl : x = bn := by omega
      have C := HBE.out wr
      go_wp2_with (go_at_call 48; refine C.mono ?_; rintro e w1 ⟨b, cap, rfl, hO, b1⟩; clear C; have HB1 : Hid (Below B w w1) := HBS.out _ _ HBr.out b1; have HO : Hid (ORo w1 B (.slice (some ⟨b, 0, none⟩) n cap) (bestL n)) := HOS.out _ _ _ HBr.out hO; clear b1 hO)
      go_ret
      exact ⟨b, cap, rfl, HO.out, HB1.out⟩
set_option maxHeartbeats 4000000 in
theorem Best_none (n : Int) (w : World) (h : n < 1 ∨ 7 < n) : Calls Tryd.prog 19 #[.int .i64 n] w fun e w' => e = .returned (.tuple #[.slice none 0 0, .int .i64 1]) ∧ Below w.heap.size w w' := by
  by_cases h1 : n < 1
  · have d1 : decide (n < 1) = true := by simpa using h1
    clear h
    go_enter Tryd.func19, Tryd.ntmps19
    go_wp2
    exact bodyPost_ret (v := .tuple #[.slice none 0 0, .int .i64 1]) (by simp [results, Tryd.results19, go_sem]) rfl ⟨rfl, Below.refl _ _⟩
  · have h7 : 7 < n := by omega
    have d1 : decide (n < 1) = false := by simpa using h1
    have d2 : decide (7 < n) = true := by simpa using h7
    clear h
    go_enter Tryd.func19, Tryd.ntmps19
    go_wp2
    exact bodyPost_ret (v := .tuple #[.slice none 0 0, .int .i64 1]) (by simp [results, Tryd.results19, go_sem]) rfl ⟨rfl, Below.refl _ _⟩
set_option maxHeartbeats 4000000 in
theorem Best_main (n : Nat) (w : World) (h1 : 1 ≤ n) (h7 : n ≤ 7) : Calls Tryd.prog 19 #[.int .i64 (n : Int)] w fun e w' => ∃ b cap, e = .returned (.tuple #[.slice (some ⟨b, 0, none⟩) n cap, .int .i64 0]) ∧ ORo w' w.heap.size (.slice (some ⟨b, 0, none⟩) n cap) (bestL n) ∧ Below w.heap.size w w' := by
  have C := shortest_any n w h1 h7
  have d1 : decide ((n : Int) < 1) = false := by simp; omega
  have d2 : decide (7 < (n : Int)) = false := by simp; omega
  have d3 : ¬ (n : Int) < 1 := by omega
  have d4 : ¬ 7 < (n : Int) := by omega
  have d5 : ¬ n = 0 := by omega
  obtain ⟨L, HL⟩ : ∃ L, Hid (bestL n = L) := ⟨_, rfl⟩
  rw [HL.out] at C ⊢
  go_enter Tryd.func19, Tryd.ntmps19
  go_wp2_with (go_at_call 35; refine C.mono ?_; rintro e w1 ⟨b, cap, rfl, hO, b1⟩; clear C)
  exact bodyPost_ret (v := .tuple #[.slice (some ⟨b, 0, none⟩) n cap, .int .i64 0]) (by simp [results, Tryd.results19, go_sem]) rfl ⟨b, cap, rfl, hO, b1⟩

end Go.Proofs.YtmiinhbffiodmaaDoor
