/- The law StrongFriends over what the faces tell. -/
import Derived.Test.YtlmjlffipinjiaaST4
namespace Go.Proofs.Ytlmjlffipinjiaa
open Go.RowKit

/-- Have all pairs that were looked at just one friend? -/
def FD (n : Nat) (t : Nat → Nat → Int) (a b : Nat) (q : Bool) : Prop := q = true ↔ ∀ a' b', Done a b a' b' → cmG n t a' b' = 1
theorem FD.start (n : Nat) (t : Nat → Nat → Int) : FD n t 0 0 true := ⟨fun _ a' b' h => by unfold Done at h; omega, fun _ => rfl⟩
theorem FD.row {n a : Nat} {t : Nat → Nat → Int} {q : Bool} (h : FD n t a a q) : FD n t (a + 1) 0 q :=
  ⟨fun k a' b' d => h.1 k a' b' (by unfold Done at d ⊢; omega), fun k => h.2 fun a' b' d => k a' b' (by unfold Done at d ⊢; omega)⟩
theorem FD.step {n a b : Nat} {t : Nat → Nat → Int} {q : Bool} (h : FD n t a b q) (hb : b < a) (r : Bool) (hr : r = true ↔ cmG n t a b = 1) : FD n t a (b + 1) (q && r) := by
  unfold FD
  rw [Bool.and_eq_true]
  constructor
  · rintro ⟨k1, k2⟩ a' b' d
    by_cases e : a' = a ∧ b' = b
    · obtain ⟨rfl, rfl⟩ := e; exact hr.1 k2
    · exact h.1 k1 a' b' (by unfold Done at d ⊢; omega)
  · intro k
    exact ⟨h.2 fun a' b' d => k a' b' (by unfold Done at d ⊢; omega), hr.2 (k a b (by unfold Done; omega))⟩
theorem FD.fri {n : Nat} {t : Nat → Nat → Int} {q : Bool} (h : FD n t n 0 q) : q = true ↔ Fri n t :=
  ⟨fun k => fri_of fun a b ha hb => h.1 k a b (by unfold Done; omega), fun F => h.2 fun a' b' d => F a' b' (by unfold Done at d; omega) (by unfold Done at d; omega) (by unfold Done at d; omega)⟩
set_option maxRecDepth 100000 in
set_option maxHeartbeats 8000000 in
theorem Friends_bad (hT : FTri) (hN : FNum) (hC : FChk) (s : Int) (L : List Int) (v : Value) (w : World) (hv : Sl w v L) (hl : L.length ≤ maxLen) (hz : gF s L ≠ 0) :
    Calls Try.prog 6 #[.agg #[.int .i64 s, v]] w fun e w' => e = .returned (.bool true) ∧ Below w.heap.size w w' := by
  have b0 := balloc w (.cells #[.int .i64 s, v] 24)
  have C0 := strongFact_any hT hN (w.alloc (.cells #[.int .i64 s, v] 24))
  have HC1 : Hid (∀ W, Below w.heap.size w W → Calls Try.prog 8 #[.agg #[.int .i64 s, v]] W fun e w' => e = .returned (.int .i64 (gF s L : Int)) ∧ Below W.heap.size W w') := fun W b => hC s L v W (hv.below b) hl
  obtain ⟨u, Hu⟩ : ∃ u, Hid (gF s L = u) := ⟨_, rfl⟩
  rw [Hu.out] at HC1 hz
  have hne : ((u : Int) != 0) = true := by simp; omega
  have hbox := heap_alloc_new w (.cells #[.int .i64 s, v] 24)
  obtain ⟨va, vc, rfl⟩ := sl_len hv
  generalize L.length = z at *
  clear hv hz
  go_enter Try.func6, Try.ntmps6
  go_wp2_with (first
    | (go_at_call 16; refine C0.mono ?_; rintro e w1 ⟨rfl, b1⟩; clear C0; have hbox1 := (b1.block _ (by simp)).trans hbox; obtain ⟨x0, x1, _, _⟩ := row2 hbox1; have B1 := Below.next b0 b1; have C1 := HC1.out _ B1; clear HC1)
    | (go_at_call 8; refine C1.mono ?_; rintro e w2 ⟨rfl, b2⟩; clear C1))
  go_ret
  exact ⟨rfl, Below.next B1 b2⟩
set_option maxRecDepth 100000 in
set_option maxHeartbeats 16000000 in
theorem Friends_ok (hT : FTri) (hN : FNum) (hC : FChk) (hF : FFri) (n : Nat) (L : List Int) (v : Value) (w : World) (hv : Sl w v L) (G : GoodG n L) :
    Calls Try.prog 6 #[.agg #[.int .i64 (n : Int), v]] w fun e w' => e = .returned (.bool true) ∧ Below w.heap.size w w' := by
  have hl : L.length ≤ maxLen := by rw [G.len]; have := sq576 G.le; unfold maxLen; omega
  have b0 := balloc w (.cells #[.int .i64 (n : Int), v] 24)
  have C0 := strongFact_any hT hN (w.alloc (.cells #[.int .i64 (n : Int), v] 24))
  have HC1 : Hid (∀ W, Below w.heap.size w W → Calls Try.prog 8 #[.agg #[.int .i64 (n : Int), v]] W fun e w' => e = .returned (.int .i64 0) ∧ Below W.heap.size W w') := fun W b => by
    have k := hC n L v W (hv.below b) hl
    rw [gF_good G] at k
    exact k
  have HC2 : Hid (∀ W, Below w.heap.size w W → Calls Try.prog 11 #[.agg #[.int .i64 (n : Int), v]] W fun e w' => (∃ (x u : Nat), e = .returned (.tuple #[.int .i64 (x : Int), .int .i64 (u : Int)]) ∧ FrT n (gx n L) x u) ∧ Below W.heap.size W w') := fun W b => (hF n L v W (hv.below b) hl).mono fun e w' ⟨⟨x, u, he, hr⟩, hb⟩ => ⟨⟨x, u, he, by
    rcases hr with ⟨h0, _⟩ | ⟨n', e', _, h⟩
    · exact absurd (gF_good G) h0
    · obtain rfl : n = n' := by omega
      exact h⟩, hb⟩
  have hpos : 0 < n * n := Nat.mul_pos G.pos G.pos
  have h8 := G.le
  have h1 := G.pos
  obtain ⟨g, off, cap, rfl, hg, hcell⟩ := hv.form G.len hpos
  have HLT : Hid (∀ r c, r < n → c < n → r * n + c < n * n) := fun r c hr hc => cell_ltG hr hc
  have HMX : Hid (∀ r c, r < n → c < n → w.cell? ⟨g, off + (r * n + c), none⟩ = some (.int .i64 (gx n L r c))) := fun r c hr hc => hcell _ (cell_ltG hr hc)
  have HGR : Hid (Gr n (gx n L)) := G.gr
  obtain ⟨z, hz⟩ : ∃ z, n * n = z := ⟨_, rfl⟩
  have hz99 : z ≤ 999 := by rw [← hz]; exact Nat.le_trans (Nat.mul_le_mul h8 h8) (by decide)
  rw [hz] at HLT HC1 HC2 C0 b0
  rw [hz]
  generalize gx n L = t at *
  have hbox := heap_alloc_new w (.cells #[.int .i64 (n : Int), .slice (some ⟨g, off, none⟩) z cap] 24)
  clear hcell hv G hpos hz hl
  go_enter Try.func6, Try.ntmps6
  go_wp2_with (first
    | (go_at_call 16; refine C0.mono ?_; rintro e w1 ⟨rfl, b1⟩; clear C0; have hbox1 := (b1.block _ (by simp)).trans hbox; obtain ⟨x0, x1, _, _⟩ := row2 hbox1; have B1 := Below.next b0 b1; have C1 := HC1.out _ B1; clear HC1)
    | (go_at_call 8; refine C1.mono ?_; rintro e w2 ⟨rfl, b2⟩; clear C1; have hbox2 := (b2.block _ (Array.getElem?_eq_some_iff.1 hbox1).1).trans hbox1; have B2 := Below.next B1 b2; clear x0 x1 b0 hbox; obtain ⟨x0, x1, _, _⟩ := row2 hbox2))
  go_loopw [5, 6] (fun qv av wr => ∃ (a : Nat) (q : Bool), av = .int .i64 (a : Int) ∧ a ≤ n ∧ qv = .bool q ∧ Hid (FD n t a 0 q) ∧ wr.heap[w.heap.size]? = some (.cells #[.int .i64 (n : Int), .slice (some ⟨g, off, none⟩) z cap] 24 (0, 0)) ∧ Below w.heap.size w wr) (fun _ av _ => (n - intOf av).toNat)
  case atStart => exact ⟨0, true, rfl, by omega, rfl, FD.start n t, hbox2, B2⟩
  case round =>
    clear hbox2 hbox1 B2 x0 x1 b1 b2 B1
    obtain ⟨a, q, rfl, ha, rfl, HFD, hbox, hB⟩ := hrel
    obtain ⟨x0, x1, _, _⟩ := row2 hbox
    by_cases hlt : a < n
    · have hda : decide ((a : Int) < (n : Int)) = true := by simp; omega
      have hda2 : decide (a < n) = true := by simp; omega
      go_wp2
      go_loopw [5, 7] (fun qv bv wr => ∃ (b : Nat) (q : Bool), bv = .int .i64 (b : Int) ∧ b ≤ a ∧ qv = .bool q ∧ Hid (FD n t a b q) ∧ wr.heap[w.heap.size]? = some (.cells #[.int .i64 (n : Int), .slice (some ⟨g, off, none⟩) z cap] 24 (0, 0)) ∧ Below w.heap.size w wr) (fun _ bv _ => (a - intOf bv).toNat)
      case atStart => exact ⟨0, q, rfl, by omega, rfl, HFD, hbox, hB⟩
      case round =>
        clear hbox hB x0 x1 HFD
        obtain ⟨b, q, rfl, hb, rfl, HFD, hbox, hB⟩ := hrel
        obtain ⟨x0, x1, _, _⟩ := row2 hbox
        by_cases hlb : b < a
        · have hdb : decide ((b : Int) < (a : Int)) = true := by simp; omega
          have hdb2 : decide (b < a) = true := by simp; omega
          have hbn : b < n := by omega
          go_wp2
          go_loopw [8, 9] (fun o i wr => ∃ (c : Nat) (Y : Int), i = .int .i64 (c : Int) ∧ c ≤ n ∧ o = .int .i64 Y ∧ Hid ((sR c fun c => t a c * t b c) = Y) ∧ 0 ≤ Y ∧ Y ≤ c ∧ wr.heap[w.heap.size]? = some (.cells #[.int .i64 (n : Int), .slice (some ⟨g, off, none⟩) z cap] 24 (0, 0)) ∧ Below w.heap.size w wr) (fun _ i _ => (n - intOf i).toNat)
          case atStart => exact ⟨0, 0, rfl, by omega, rfl, (rfl : (sR 0 fun c => t a c * t b c) = 0), by omega, by omega, hbox, hB⟩
          case round =>
            clear hbox hB x0 x1
            obtain ⟨c, Y, rfl, hc, rfl, HY, hY1, hY2, hbox, b0⟩ := hrel
            obtain ⟨x0, x1, _, _⟩ := row2 hbox
            by_cases hlc : c < n
            · have hdc : decide ((c : Int) < (n : Int)) = true := by simp; omega
              have k1 := HLT.out a c hlt hlc
              have k2 := HLT.out b c hbn hlc
              have c1 := (b0.cell (p := ⟨g, off + (a * n + c), none⟩) hg).trans (HMX.out a c hlt hlc)
              have c2 := (b0.cell (p := ⟨g, off + (b * n + c), none⟩) hg).trans (HMX.out b c hbn hlc)
              have g1 := HGR.out.bit a c hlt hlc
              have g2 := HGR.out.bit b c hbn hlc
              have HS2 : Hid ((sR (c + 1) fun c => t a c * t b c) = Y + t a c * t b c) := by show _ = _; rw [sR, HY.out]
              obtain ⟨x, Hx⟩ : ∃ x, Hid (t a c = x) := ⟨_, rfl⟩
              obtain ⟨y, Hy⟩ : ∃ y, Hid (t b c = y) := ⟨_, rfl⟩
              rw [Hx.out] at c1 g1 HS2
              rw [Hy.out] at c2 g2 HS2
              have hp : 0 ≤ x * y ∧ x * y ≤ 1 := by rcases g1 with rfl | rfl <;> rcases g2 with rfl | rfl <;> decide
              obtain ⟨e, He⟩ : ∃ z, Hid (x * y = z) := ⟨_, rfl⟩
              have he := He.out
              rw [he] at hp HS2
              obtain ⟨m1, Hm1⟩ : ∃ m, Hid (a * n = m) := ⟨_, rfl⟩
              obtain ⟨m2, Hm2⟩ : ∃ m, Hid (b * n = m) := ⟨_, rfl⟩
              have hm1 : (a : Int) * (n : Int) = (m1 : Int) := by rw [← Hm1.out]; simp
              have hm2 : (b : Int) * (n : Int) = (m2 : Int) := by rw [← Hm2.out]; simp
              rw [Hm1.out] at k1 c1
              rw [Hm2.out] at k2 c2
              obtain ⟨p1, Hp1⟩ : ∃ m, Hid (m1 + c = m) := ⟨_, rfl⟩
              obtain ⟨p2, Hp2⟩ : ∃ m, Hid (m2 + c = m) := ⟨_, rfl⟩
              have hp1 : (m1 : Int) + (c : Int) = (p1 : Int) := by rw [← Hp1.out]; simp
              have hp2 : (m2 : Int) + (c : Int) = (p2 : Int) := by rw [← Hp2.out]; simp
              rw [Hp1.out] at k1 c1
              rw [Hp2.out] at k2 c2
              have q1 : (p1 : Int) < (z : Int) := by omega
              have q2 : (p2 : Int) < (z : Int) := by omega
              have hm1' := wrapN9 (q := m1) (by have := Hp1.out; omega)
              have hm2' := wrapN9 (q := m2) (by have := Hp2.out; omega)
              have hp1' := wrapN9 (q := p1) (by omega)
              have hp2' := wrapN9 (q := p2) (by omega)
              have he1 := wrapZ (z := e) (by omega) (by omega)
              have he2 := wrapZ (z := Y + e) (by omega) (by omega)
              obtain ⟨hp3, hp4⟩ := hp
              clear g1 g2 HY
              go_wp2
              go_quiet (fail)
              go_wp2
              go_roundw
              case rel => exact ⟨c + 1, Y + e, by go_num, by omega, by go_num, HS2, by omega, by omega, hbox, bdrewN b0 _⟩
              case measure => simp [intOf]; omega
            · have hdc : decide ((c : Int) < (n : Int)) = false := by simp; omega
              have hdc2 : decide (c < n) = false := by simp; omega
              have HCM : Hid (cmG n t a b = Y) := by show _ = _; rw [← HY.out, show c = n by omega]; rfl
              have HF2 : Hid (FD n t a (b + 1) (q && (Y == 1))) := (HFD.out.step hlb (Y == 1) (by rw [HCM.out]; simp) : FD _ _ _ _ _)
              clear HY HCM
              cases q with
              | true =>
                have HF3 : Hid (FD n t a (b + 1) (Y == 1)) := HF2.out
                clear HF2 HFD
                go_wp2
                go_roundw
                case rel => exact ⟨b + 1, (Y == 1), by go_num, by omega, rfl, HF3, hbox, b0⟩
                case measure => simp [intOf]; omega
              | false =>
                have HF3 : Hid (FD n t a (b + 1) false) := HF2.out
                clear HF2 HFD
                go_wp2
                go_roundw
                case rel => exact ⟨b + 1, false, by go_num, by omega, rfl, HF3, hbox, b0⟩
                case measure => simp [intOf]; omega
        · have hdb : decide ((b : Int) < (a : Int)) = false := by simp; omega
          have hdb2 : decide (b < a) = false := by simp; omega
          have HR1 : Hid (FD n t (a + 1) 0 q) := by
            have : b = a := by omega
            subst this
            exact HFD.out.row
          clear HFD
          go_wp2
          go_roundw
          case rel => exact ⟨a + 1, q, by go_num, by omega, rfl, HR1, hbox, hB⟩
          case measure => simp [intOf]; omega
    · have hda : decide ((a : Int) < (n : Int)) = false := by simp; omega
      have hda2 : decide (a < n) = false := by simp; omega
      have HFI : Hid (q = true ↔ Fri n t) := by
        have : a = n := by omega
        subst this
        exact HFD.out.fri
      clear HFD
      have C2 := HC2.out _ hB
      clear HC2
      go_wp2_with fail
      refine C2.mono ?_
      rintro e w3 ⟨⟨x, u, rfl, hfr⟩, b3⟩
      clear C2 x0 x1
      have hbox3 := (b3.block _ (Array.getElem?_eq_some_iff.1 hbox).1).trans hbox
      obtain ⟨x0, x1, _, _⟩ := row2 hbox3
      have B3 := Below.next hB b3
      rcases hfr with ⟨hFr, rfl, hx, hall, _⟩ | ⟨hFr, rfl, rfl⟩
      · obtain rfl : q = true := HFI.out.2 hFr
        have dx : decide ((x : Int) < 0) = false := by simp
        have dx2 : decide ((n : Int) ≤ (x : Int)) = false := by simp; omega
        have dx3 : decide (n ≤ x) = false := by simp; omega
        have HAL : Hid (∀ b, b < n → b ≠ x → t x b = 1) := hall
        clear HFI hFr hall hbox hB
        go_wp2
        go_loopw [11] (fun bv wr => ∃ (b : Nat), bv = .int .i64 (b : Int) ∧ b ≤ n ∧ wr = w3) (fun bv _ => (n - intOf bv).toNat)
        case atStart => exact ⟨0, rfl, by omega, rfl⟩
        case round =>
          obtain ⟨b, rfl, hb, hw⟩ := hrel
          replace hw := hw.symm
          subst hw
          by_cases hlb : b < n
          · have hdb : decide ((b : Int) < (n : Int)) = true := by simp; omega
            by_cases hbx : b = x
            · have dbx : ((b : Int) != (x : Int)) = false := by simp [hbx]
              clear hbx
              go_wp2
              go_roundw
              case rel => exact ⟨b + 1, by go_num, by omega, trivial⟩
              case measure => simp [intOf]; omega
            · have dbx : ((b : Int) != (x : Int)) = true := by simp; omega
              have k1 := HLT.out x b hx hlb
              have c1 := (B3.cell (p := ⟨g, off + (x * n + b), none⟩) hg).trans (HMX.out x b hx hlb)
              rw [HAL.out b hlb hbx] at c1
              obtain ⟨m1, Hm1⟩ : ∃ m, Hid (x * n = m) := ⟨_, rfl⟩
              have hm1 : (x : Int) * (n : Int) = (m1 : Int) := by rw [← Hm1.out]; simp
              rw [Hm1.out] at k1 c1
              obtain ⟨p1, Hp1⟩ : ∃ m, Hid (m1 + b = m) := ⟨_, rfl⟩
              have hp1 : (m1 : Int) + (b : Int) = (p1 : Int) := by rw [← Hp1.out]; simp
              rw [Hp1.out] at k1 c1
              have q1 : (p1 : Int) < (z : Int) := by omega
              have hm1' := wrapN9 (q := m1) (by have := Hp1.out; omega)
              have hp1' := wrapN9 (q := p1) (by omega)
              clear hbx
              go_wp2
              go_roundw
              case rel => exact ⟨b + 1, by go_num, by omega, trivial⟩
              case measure => simp [intOf]; omega
          · have hdb : decide ((b : Int) < (n : Int)) = false := by simp; omega
            have hdb2 : decide (b < n) = false := by simp; omega
            go_wp2
            go_ret
            exact ⟨rfl, B3⟩
      · obtain rfl : q = false := by
          cases q with
          | true => exact absurd (HFI.out.1 rfl) hFr
          | false => rfl
        clear HFI hFr
        go_wp2
        go_ret
        exact ⟨rfl, B3⟩
theorem Friends_law (hT : FTri) (hN : FNum) (hC : FChk) (hF : FFri) (s : Int) (L : List Int) (v : Value) (w : World) (hv : Sl w v L) (hl : L.length ≤ maxLen) :
    Calls Try.prog 6 #[.agg #[.int .i64 s, v]] w fun e w' => e = .returned (.bool true) ∧ Below w.heap.size w w' := by
  by_cases hz : gF s L = 0
  · obtain ⟨n, rfl, G⟩ := gF_ok hz
    exact Friends_ok hT hN hC hF n L v w hv G
  · exact Friends_bad hT hN hC s L v w hv hl hz
end Go.Proofs.Ytlmjlffipinjiaa
