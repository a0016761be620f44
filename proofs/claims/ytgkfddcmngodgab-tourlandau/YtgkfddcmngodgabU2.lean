/- The document's Beats and ScoresOf, walked. -/
import Derived.Test.YtgkfddcmngodgabU1
import Derived.Laws.AppendOwn
namespace Go.Proofs.Ytgkfddcmngodgab
open Go.RowKit

theorem GoodT.cells {n : Nat} {l : List Int} (hg : GoodT n l) : 0 < l.length := by rw [hg.len]; exact Nat.mul_pos hg.one hg.one
/-- What is counted of a row. -/
def scU (n : Nat) (l : List Int) (a b : Nat) : Nat := (List.range b).countP (tB n l a)
theorem scU_more (n : Nat) (l : List Int) (a b : Nat) : scU n l a (b + 1) = scU n l a b + if tB n l a b then 1 else 0 := by
  unfold scU; rw [List.range_succ, List.countP_append]; simp [List.countP_cons]
theorem scU_le (n : Nat) (l : List Int) (a b : Nat) : scU n l a b ≤ b := by
  unfold scU; exact Nat.le_trans List.countP_le_length (by simp)
def scP' (n : Nat) (l : List Int) (a : Nat) : List Nat := (List.range a).map fun i => scU n l i n
theorem scP'_more (n : Nat) (l : List Int) (a : Nat) : scP' n l (a + 1) = scP' n l a ++ [scU n l a n] := by unfold scP'; rw [List.range_succ, List.map_append]; rfl
theorem scP'_len (n : Nat) (l : List Int) (a : Nat) : (scP' n l a).length = a := by simp [scP']
theorem own_form {w : World} {base n : Nat} {e : TypeId} {v : Value} {xs : List Value} (h : w.ownsRow base e 1 v n xs) : ∃ a c, v = .slice a n c := by
  obtain ⟨_, ⟨rfl, rfl⟩ | ⟨g, cap, cur, rfl, _⟩⟩ := h
  · exact ⟨_, _, rfl⟩
  · exact ⟨_, _, rfl⟩
theorem own_low' {w : World} {b b' n : Nat} {v : Value} {l : List Value} (h : w.ownsRow b 3 1 v n l) (hb : b' ≤ b) : w.ownsRow b' 3 1 v n l := by
  obtain ⟨h0, h | ⟨g, cap, cur, h1, h2, h3⟩⟩ := h
  · exact ⟨h0, .inl h⟩
  · exact ⟨h0, .inr ⟨g, cap, cur, h1, Nat.le_trans hb h2, h3⟩⟩
/-- The numbers of a row of one's own. -/
def nz (l : List Nat) : List Value := (l.map Int.ofNat).map (Value.int .i64)
theorem nz_more (l : List Nat) (x : Nat) : nz (l ++ [x]) = nz l ++ [.int .i64 (x : Int)] := by simp [nz]
set_option maxRecDepth 100000 in
set_option maxHeartbeats 16000000 in
theorem ScoresOf_any {n : Nat} {l : List Int} (hg : GoodT n l) (v : Value) (w : World) (hv : Sl w v l) :
    Calls Try.prog 14 #[.agg #[.int .i64 (n : Int), v]] w fun e w' => (∃ y, e = .returned y ∧ ORow w' w.heap.size y (scT (tB n l) n)) ∧ Below w.heap.size w w' := by
  obtain ⟨i3, ki3, kz0, kz1, kz2⟩ := info3
  obtain ⟨k, o, c, rfl, hC⟩ := sl_all hv hg.cells
  have hn9 := hg.le
  have hp81 : l.length ≤ 81 := by rw [hg.len]; exact Nat.mul_le_mul hn9 hn9
  have HE : Hid (scP' n l n = scT (tB n l) n) := rfl
  rw [← HE.out]
  have HVA : Hid (∀ a b, a < n → b < n → l.getD (a * n + b) 0 = if tB n l a b then 1 else 0) := fun a b ha hb => hg.val ha hb
  have HLN : Hid (l.length = n * n) := hg.len
  obtain ⟨m, Hm⟩ : ∃ m, Hid (l.length = m) := ⟨_, rfl⟩
  rw [Hm.out] at hp81 hC ⊢
  have b1 := balloc w (.cells #[.int .i64 (n : Int), .slice (some ⟨k, o, none⟩) m c] 24)
  have HX := sq_cells (n : Int) (.slice (some ⟨k, o, none⟩) m c) w
  obtain ⟨w0, Hw0⟩ : ∃ w0, Hid (w.alloc (.cells #[.int .i64 (n : Int), .slice (some ⟨k, o, none⟩) m c] 24) = w0) := ⟨_, rfl⟩
  rw [Hw0.out] at b1 HX
  have HX2 : Hid (∀ W, Below w0.heap.size w0 W → W.cell? ⟨w.heap.size, 0, none⟩ = some (.int .i64 (n : Int)) ∧ W.cell? ⟨w.heap.size, 1, none⟩ = some (.slice (some ⟨k, o, none⟩) m c)) := HX
  have HC : Hid (∀ W, Below w0.heap.size w0 W → ∀ j, j < m → W.cell? ⟨k, o + j, none⟩ = some (.int .i64 (l.getD j 0))) := fun W bW j hj => hC W (Below.next b1 bW) j hj
  have HB0 : Hid (∀ W, Below w0.heap.size w0 W → Below w.heap.size w W) := fun W b => Below.next b1 b
  have hsz0 : w.heap.size ≤ w0.heap.size := b1.size
  obtain ⟨x0, x1⟩ := HX2.out w0 (Below.refl _ _)
  rw [← Hw0.out] at x0 x1
  clear HX hC hv b1
  go_enter Try.func14, Try.ntmps14
  go_wp2
  rw [Hw0.out]
  go_loopw [3, 4] (fun ov av wr => ∃ (a : Nat) (oa : Option Addr) (oc : Nat), av = .int .i64 (a : Int) ∧ ov = .slice oa a oc ∧ a ≤ n ∧ wr.ownsRow w0.heap.size 3 1 (.slice oa a oc) a (nz (scP' n l a)) ∧ Below w0.heap.size w0 wr) (fun _ av _ => (n - intOf av).toNat)
  case atStart => exact ⟨0, none, 0, rfl, rfl, by omega, World.ownsRow_nil _ _ _ _, Below.refl _ _⟩
  case round =>
    clear x0 x1
    obtain ⟨a, oa, oc, rfl, rfl, ha, hown, hB⟩ := hrel
    obtain ⟨x0, x1⟩ := HX2.out wr hB
    by_cases hlt : a < n
    · have hda : decide ((a : Int) < (n : Int)) = true := by simp; omega
      have haa : (a : Int) < (n : Int) := by omega
      obtain ⟨w1, Hw1⟩ : ∃ w1 : World, Hid (w1 = wr) := ⟨_, rfl⟩
      go_wp2
      go_loopw [5, 6] (fun sv bv wr => ∃ (b s : Nat), bv = .int .i64 (b : Int) ∧ sv = .int .i64 (s : Int) ∧ b ≤ n ∧ s ≤ b ∧ Hid (scU n l a b = s) ∧ wr = w1) (fun _ bv _ => (n - intOf bv).toNat)
      case atStart => exact ⟨0, 0, rfl, rfl, by omega, by omega, rfl, Hw1.out.symm⟩
      case round =>
        obtain ⟨b, s, rfl, rfl, hb, hs, HS, e1⟩ := hrel
        subst e1
        rw [← Hw1.out] at hB hown x0 x1
        by_cases hlb : b < n
        · have hdb : decide ((b : Int) < (n : Int)) = true := by simp; omega
          have hbb : (b : Int) < (n : Int) := by omega
          obtain ⟨p, Hp⟩ : ∃ p, Hid (a * n + b = p) := ⟨_, rfl⟩
          obtain ⟨an, Han⟩ : ∃ an, Hid (a * n = an) := ⟨_, rfl⟩
          have hpm : p < m := by rw [← Hp.out, ← Hm.out, HLN.out]; exact idx_lt hlt hlb
          have hc := HC.out _ hB p hpm
          have ea : (a : Int) * (n : Int) = (an : Int) := by rw [← Han.out]; simp
          have ep : (an : Int) + (b : Int) = (p : Int) := by rw [← Hp.out, Han.out]; simp
          have hanp : an ≤ p := by omega
          have hx := HVA.out a b hlt hlb
          have st := scU_more n l a b
          rw [Hp.out] at hx
          rw [HS.out] at st
          obtain ⟨x, Hx⟩ : ∃ x : Nat, Hid ((if tB n l a b then 1 else 0 : Nat) = x) := ⟨_, rfl⟩
          rw [Hx.out] at st
          have hx2 : l.getD p 0 = (x : Int) := by rw [hx, ← Hx.out]; split <;> rfl
          have hx1 : x ≤ 1 := by rw [← Hx.out]; split <;> omega
          rw [hx2] at hc
          clear hx hx2
          go_wp2
          go_roundw
          case rel => exact ⟨b + 1, s + x, by go_num, by go_num, by omega, by omega, st, trivial⟩
          case measure => simp [intOf]; omega
        · have hdb : decide ((b : Int) < (n : Int)) = false := by simp; omega
          have hdbn : decide (b < n) = false := by simp; omega
          obtain rfl : b = n := by omega
          have HA : Hid (nz (scP' b l (a + 1)) = nz (scP' b l a) ++ [.int .i64 (s : Int)]) := by show _ = _; rw [scP'_more, HS.out, nz_more]
          have hbz := hB.size
          obtain ⟨wq, Hwq⟩ : ∃ wq : World, Hid (wq = wr) := ⟨_, rfl⟩
          go_wp2_with (first
            | (at_builtin; refine wpList_append_own _ rfl _ _ 22 rfl w0.heap.size 3 i3 (.int .i64 0) 1 8 und22 ki3 kz0 kz1 kz2 rfl (by decide) _ _ _ rfl (hown.alloc _) ⟨wr.heap.size, 0, none⟩ 1 1 [.int .i64 (s : Int)] rfl rfl ?c1 ?c2 ?c3 ?c4 ?c5 ?_)
            | go_in)
          case c1 =>
            intro j u hj
            match j, hj with
            | 0, hj => simp at hj; subst hj; simp [Addr.add]
          case c2 => intro u hu; simp at hu; subst hu; rfl
          case c3 => unfold maxLen; omega
          case c4 => omega
          case c5 => simp; omega
          · intro v' w6 hown' hgrow _
            have hb6 : Below w0.heap.size w0 w6 := (hB.alloc hbz _).grown hgrow (by simp; omega) (fun k hk => (hown.lt k hk).1)
            rw [← HA.out] at hown'
            obtain ⟨xa, xc, rfl⟩ := own_form hown'
            go_wp2
            go_roundw
            case rel => exact ⟨a + 1, xa, xc, by go_num, rfl, by omega, hown', hb6⟩
            case measure => simp [intOf]; omega
    · have hda : decide ((a : Int) < (n : Int)) = false := by simp; omega
      have hdan : decide (a < n) = false := by simp; omega
      obtain rfl : a = n := by omega
      go_wp2
      go_ret
      exact ⟨⟨_, rfl, by unfold ORow; rw [scP'_len]; exact own_low' hown hsz0⟩, HB0.out _ hB⟩
end Go.Proofs.Ytgkfddcmngodgab
