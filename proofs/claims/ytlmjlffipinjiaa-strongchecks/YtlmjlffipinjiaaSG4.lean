/- The walk of the document's FriendOf. -/
import Derived.Test.YtlmjlffipinjiaaSG3
namespace Go.Proofs.Ytlmjlffipinjiaa
open Go.RowKit

/-- What is told of a friend. -/
def FrT (n : Nat) (A : Nat → Nat → Int) (x u : Nat) : Prop := (Fri n A ∧ u = 0 ∧ x < n ∧ (∀ b, b < n → b ≠ x → A x b = 1) ∧ ∀ y, y < x → ∃ b, b < n ∧ b ≠ y ∧ A y b = 0) ∨ (¬ Fri n A ∧ u = 4 ∧ x = 0)
theorem FrT.one {n x u x' u' : Nat} {A : Nat → Nat → Int} (h : FrT n A x u) (h' : FrT n A x' u') : x = x' ∧ u = u' := by
  rcases h with ⟨F, rfl, hx, h1, h2⟩ | ⟨F, rfl, rfl⟩ <;> rcases h' with ⟨F', rfl, hx', h1', h2'⟩ | ⟨F', rfl, rfl⟩
  · refine ⟨?_, rfl⟩
    apply Classical.byContradiction
    intro hne
    rcases Nat.lt_or_gt_of_ne hne with k | k
    · obtain ⟨b, hb, hbn, e⟩ := h2' x k
      rw [h1 b hb hbn] at e
      exact absurd e (by decide)
    · obtain ⟨b, hb, hbn, e⟩ := h2 x' k
      rw [h1' b hb hbn] at e
      exact absurd e (by decide)
  · exact absurd F F'
  · exact absurd F' F
  · exact ⟨rfl, rfl⟩
theorem fri_of {n : Nat} {A : Nat → Nat → Int} (h : ∀ a b, a < n → b < a → cmG n A a b = 1) : Fri n A := fun a b ha hb hne => by
  rcases Nat.lt_or_gt_of_ne hne with k | k
  · rw [Gr.cm_sym]; exact h b a hb k
  · exact h a b ha k
set_option maxRecDepth 100000 in
set_option maxHeartbeats 8000000 in
theorem FriendOf_any (n : Nat) (L : List Int) (G : GoodG n L) (v : Value) (w : World) (hv : Sl w v L) :
    Calls Try.prog 15 #[.agg #[.int .i64 (n : Int), v]] w fun e w' => (∃ (x u : Nat), e = .returned (.tuple #[.int .i64 (x : Int), .int .i64 (u : Int)]) ∧ FrT n (gx n L) x u) ∧ Below w.heap.size w w' := by
  have hpos : 0 < n * n := Nat.mul_pos G.pos G.pos
  have h8 := G.le
  have h1 := G.pos
  have HCM : Hid (∀ a b W, a < n → b < n → Below w.heap.size w W → Calls Try.prog 26 #[.agg #[.int .i64 (n : Int), v], .int .i64 (a : Int), .int .i64 (b : Int)] W fun e w' => e = .returned (.int .i64 (cmG n (gx n L) a b)) ∧ Below W.heap.size W w') := fun a b W ha hb hW => commonTo_any n L G v W (hv.below hW) a b ha hb
  obtain ⟨g, off, cap, rfl, hg, hcell⟩ := hv.form G.len hpos
  have HLT : Hid (∀ r c, r < n → c < n → r * n + c < n * n) := fun r c hr hc => cell_ltG hr hc
  have HMX : Hid (∀ r c, r < n → c < n → w.cell? ⟨g, off + (r * n + c), none⟩ = some (.int .i64 (gx n L r c))) := fun r c hr hc => hcell _ (cell_ltG hr hc)
  have HGR : Hid (Gr n (gx n L)) := G.gr
  obtain ⟨z, hz⟩ : ∃ z, n * n = z := ⟨_, rfl⟩
  have hz99 : z ≤ 999 := by rw [← hz]; exact Nat.le_trans (Nat.mul_le_mul h8 h8) (by decide)
  rw [hz] at HLT HCM
  rw [hz]
  generalize gx n L = t at *
  have hbox := heap_alloc_new w (.cells #[.int .i64 (n : Int), .slice (some ⟨g, off, none⟩) z cap] 24)
  have b0 := balloc w (.cells #[.int .i64 (n : Int), .slice (some ⟨g, off, none⟩) z cap] 24)
  clear hcell hv G hpos hz
  go_enter Try.func15, Try.ntmps15
  go_wp2
  go_loopw [5] (fun av wr => ∃ (a : Nat), av = .int .i64 (a : Int) ∧ a ≤ n ∧ Hid (∀ a' b', a' < a → b' < a' → cmG n t a' b' = 1) ∧ wr.heap[w.heap.size]? = some (.cells #[.int .i64 (n : Int), .slice (some ⟨g, off, none⟩) z cap] 24 (0, 0)) ∧ Below w.heap.size w wr) (fun av _ => (n - intOf av).toNat)
  case atStart => exact ⟨0, rfl, by omega, (fun a' b' h => by omega : ∀ a' b', a' < 0 → _), hbox, b0⟩
  case round =>
    clear hbox b0
    obtain ⟨a, rfl, ha, HA, hbox, hB⟩ := hrel
    obtain ⟨x0, x1, _, _⟩ := row2 hbox
    by_cases hlt : a < n
    · have hda : decide ((a : Int) < (n : Int)) = true := by simp; omega
      have hda2 : decide (a < n) = true := by simp; omega
      go_wp2
      go_loopw [6] (fun bv wr => ∃ (b : Nat), bv = .int .i64 (b : Int) ∧ b ≤ a ∧ Hid (∀ b', b' < b → cmG n t a b' = 1) ∧ wr.heap[w.heap.size]? = some (.cells #[.int .i64 (n : Int), .slice (some ⟨g, off, none⟩) z cap] 24 (0, 0)) ∧ Below w.heap.size w wr) (fun bv _ => (a - intOf bv).toNat)
      case atStart => exact ⟨0, rfl, by omega, (fun b' h => by omega : ∀ b', b' < 0 → _), hbox, hB⟩
      case round =>
        clear hbox hB x0 x1
        obtain ⟨b, rfl, hb, HBB, hbox, hB⟩ := hrel
        obtain ⟨x0, x1, _, _⟩ := row2 hbox
        have hlw : w.heap.size < wr.heap.size := (Array.getElem?_eq_some_iff.1 hbox).1
        by_cases hlb : b < a
        · have hdb : decide ((b : Int) < (a : Int)) = true := by simp; omega
          have C := HCM.out a b wr hlt (by omega) hB
          have HB2 : Hid (cmG n t a b = 1 → ∀ b', b' < b + 1 → cmG n t a b' = 1) := fun h b' hb' => by
            by_cases e : b' = b
            · subst e; exact h
            · exact HBB.out b' (by omega)
          have HNO : Hid (cmG n t a b ≠ 1 → FrT n t 0 4) := fun h => .inr ⟨fun F => h (F a b hlt (by omega) (by omega)), rfl, rfl⟩
          have hcm := HGR.out.cm_at hlt (show b < n by omega)
          generalize cmG n t a b = c at C HB2 HNO hcm
          clear HBB
          by_cases hc : c = 1
          · have dc : (c != 1) = false := by simp [hc]
            have HB3 : Hid (∀ b', b' < b + 1 → cmG n t a b' = 1) := HB2.out hc
            clear hc HB2 HNO hcm
            go_wp2_with (go_at_call 26; refine C.mono ?_; rintro e w1 ⟨rfl, b1⟩; clear C; have hbox1 := (b1.block _ hlw).trans hbox; have hB1 := Below.next hB b1; clear x0 x1 hbox hB)
            go_roundw
            case rel => exact ⟨b + 1, by go_num, by omega, HB3, hbox1, hB1⟩
            case measure => simp [intOf]; omega
          · have dc : (c != 1) = true := by simp [hc]
            have HN := HNO.out hc
            clear hc HB2 HNO hcm
            go_wp2_with (go_at_call 26; refine C.mono ?_; rintro e w1 ⟨rfl, b1⟩; clear C; have hB1 := Below.next hB b1; clear x0 x1 hbox hB)
            go_ret2
            exact ⟨⟨0, 4, rfl, HN⟩, hB1⟩
        · have hdb : decide ((b : Int) < (a : Int)) = false := by simp; omega
          have hdb2 : decide (b < a) = false := by simp; omega
          have HA2 : Hid (∀ a' b', a' < a + 1 → b' < a' → cmG n t a' b' = 1) := fun a' b' ha' hb' => by
            by_cases e : a' = a
            · subst e; exact HBB.out b' (by omega)
            · exact HA.out a' b' (by omega) hb'
          clear HBB HA
          go_wp2
          go_roundw
          case rel => exact ⟨a + 1, by go_num, by omega, HA2, hbox, hB⟩
          case measure => simp [intOf]; omega
    · have hda : decide ((a : Int) < (n : Int)) = false := by simp; omega
      have hda2 : decide (a < n) = false := by simp; omega
      have HFR : Hid (Fri n t) := (fri_of fun a' b' ha' hb' => HA.out a' b' (by omega) hb' : Fri n t)
      clear HA
      go_wp2
      go_loopw [8] (fun cv wr => ∃ (c : Nat), cv = .int .i64 (c : Int) ∧ c ≤ n ∧ Hid (∀ y, y < c → ∃ b, b < n ∧ b ≠ y ∧ t y b = 0) ∧ wr.heap[w.heap.size]? = some (.cells #[.int .i64 (n : Int), .slice (some ⟨g, off, none⟩) z cap] 24 (0, 0)) ∧ Below w.heap.size w wr) (fun cv _ => (n - intOf cv).toNat)
      case atStart => exact ⟨0, rfl, by omega, (fun y h => by omega : ∀ y, y < 0 → _), hbox, hB⟩
      case round =>
        clear hbox hB x0 x1
        obtain ⟨c, rfl, hc, HY, hbox, hB⟩ := hrel
        obtain ⟨x0, x1, _, _⟩ := row2 hbox
        by_cases hlc : c < n
        · have hdc : decide ((c : Int) < (n : Int)) = true := by simp; omega
          have hdc2 : decide (c < n) = true := by simp; omega
          go_wp2
          go_loopw [9, 10] (fun lv bv wr => ∃ (b : Nat) (q : Bool), bv = .int .i64 (b : Int) ∧ b ≤ n ∧ lv = .bool q ∧ Hid (q = true → ∀ b', b' < b → b' ≠ c → t c b' = 1) ∧ Hid (q = false → ∃ b', b' < n ∧ b' ≠ c ∧ t c b' = 0) ∧ wr.heap[w.heap.size]? = some (.cells #[.int .i64 (n : Int), .slice (some ⟨g, off, none⟩) z cap] 24 (0, 0)) ∧ Below w.heap.size w wr) (fun _ bv _ => (n - intOf bv).toNat)
          case atStart => exact ⟨0, true, rfl, by omega, rfl, (fun _ b' h => by omega : true = true → ∀ b', b' < 0 → _), (fun h => Bool.noConfusion h : true = false → _), hbox, hB⟩
          case round =>
            clear hbox hB x0 x1
            obtain ⟨b, q, rfl, hb, rfl, HQ1, HQ0, hbox, hB⟩ := hrel
            obtain ⟨x0, x1, _, _⟩ := row2 hbox
            by_cases hlb : b < n
            · have hdb : decide ((b : Int) < (n : Int)) = true := by simp; omega
              have k1 := HLT.out c b hlc hlb
              have c1 := (hB.cell (p := ⟨g, off + (c * n + b), none⟩) hg).trans (HMX.out c b hlc hlb)
              have hbit := HGR.out.bit c b hlc hlb
              have HK : Hid ((b = c ∨ t c b = 1) → q = true → ∀ b', b' < b + 1 → b' ≠ c → t c b' = 1) := fun h hq b' hb' hne => by
                by_cases e : b' = b
                · subst e
                  rcases h with h | h
                  · exact absurd h hne
                  · exact h
                · exact HQ1.out hq b' (by omega) hne
              have HZ : Hid (b ≠ c → t c b = 0 → ∃ b', b' < n ∧ b' ≠ c ∧ t c b' = 0) := fun h1 h2 => ⟨b, hlb, h1, h2⟩
              obtain ⟨x, Hx⟩ : ∃ x, Hid (t c b = x) := ⟨_, rfl⟩
              rw [Hx.out] at c1 hbit HK HZ
              obtain ⟨m1, Hm1⟩ : ∃ m, Hid (c * n = m) := ⟨_, rfl⟩
              have hm1 : (c : Int) * (n : Int) = (m1 : Int) := by rw [← Hm1.out]; simp
              rw [Hm1.out] at k1 c1
              obtain ⟨p1, Hp1⟩ : ∃ m, Hid (m1 + b = m) := ⟨_, rfl⟩
              have hp1 : (m1 : Int) + (b : Int) = (p1 : Int) := by rw [← Hp1.out]; simp
              rw [Hp1.out] at k1 c1
              have q1 : (p1 : Int) < (z : Int) := by omega
              have hm1' := wrapN9 (q := m1) (by have := Hp1.out; omega)
              have hp1' := wrapN9 (q := p1) (by omega)
              clear HQ1
              by_cases hbc : b = c
              · have dbc : ((b : Int) != (c : Int)) = false := by simp [hbc]
                have HK2 : Hid (q = true → ∀ b', b' < b + 1 → b' ≠ c → t c b' = 1) := HK.out (.inl hbc)
                clear hbc HK HZ hbit
                go_wp2
                go_roundw
                case rel => exact ⟨b + 1, q, by go_num, by omega, rfl, HK2, HQ0, hbox, hB⟩
                case measure => simp [intOf]; omega
              · have dbc : ((b : Int) != (c : Int)) = true := by simp; omega
                by_cases hx : x = 0
                · have dx : (x == 0) = true := by simp [hx]
                  have HZ2 := HZ.out hbc hx
                  have HZ5 : Hid (∃ b', b' < n ∧ b' ≠ c ∧ t c b' = 0) := HZ2
                  clear hbc hx HK HZ hbit HZ2 HQ0
                  go_wp2
                  go_roundw
                  case rel => exact ⟨b + 1, false, by go_num, by omega, rfl, (fun h => Bool.noConfusion h : false = true → _), (fun _ => HZ5.out : false = false → _), hbox, hB⟩
                  case measure => simp [intOf]; omega
                · have dx : (x == 0) = false := by simp [hx]
                  have HK2 : Hid (q = true → ∀ b', b' < b + 1 → b' ≠ c → t c b' = 1) := HK.out (.inr (by rcases hbit with h | h; exact absurd h hx; exact h))
                  clear hbc hx HK HZ hbit
                  go_wp2
                  go_roundw
                  case rel => exact ⟨b + 1, q, by go_num, by omega, rfl, HK2, HQ0, hbox, hB⟩
                  case measure => simp [intOf]; omega
            · have hdb : decide ((b : Int) < (n : Int)) = false := by simp; omega
              have hdb2 : decide (b < n) = false := by simp; omega
              cases q with
              | true =>
                have hfin : FrT n t c 0 := .inl ⟨HFR.out, rfl, hlc, fun b' hb' hne => HQ1.out rfl b' (by omega) hne, HY.out⟩
                clear HQ1 HQ0
                go_wp2
                go_ret2
                exact ⟨⟨c, 0, rfl, hfin⟩, hB⟩
              | false =>
                have HY2 : Hid (∀ y, y < c + 1 → ∃ b, b < n ∧ b ≠ y ∧ t y b = 0) := fun y hy => by
                  by_cases e : y = c
                  · subst e; exact HQ0.out rfl
                  · exact HY.out y (by omega)
                clear HQ1 HQ0
                go_wp2
                go_roundw
                case rel => exact ⟨c + 1, by go_num, by omega, HY2, hbox, hB⟩
                case measure => simp [intOf]; omega
        · exfalso
          obtain ⟨x, hx, hall⟩ := HFR.out.friend HGR.out h1
          obtain ⟨b, hb, hne, e⟩ := HY.out x (by omega)
          rw [hall b hb hne] at e
          exact absurd e (by decide)
end Go.Proofs.Ytlmjlffipinjiaa
