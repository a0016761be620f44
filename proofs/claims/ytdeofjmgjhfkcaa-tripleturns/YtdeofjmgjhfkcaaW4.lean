/- The walk of the document's ProductOf. -/
import Derived.Test.YtdeofjmgjhfkcaaW1
import Derived.Test.YtdeofjmgjhfkcaaQ1
import Derived.Test.YtdeofjmgjhfkcaaQ2
import Derived.Test.YtdeofjmgjhfkcaaD1
import Derived.Test.YtdeofjmgjhfkcaaW3
import Derived.Test.YtdeofjmgjhfkcaaP25
/- The walk of the document's DoubleOf. -/
namespace Go.Proofs.Ytdeofjmgjhfkcaa
open Go.RowKit Go.Maps

theorem two_box (v : Nat) (u : Value) (w : World) : ∀ W, Below ((w.alloc (.cells #[.int .i64 (v : Int), u] 24)).alloc (.cells #[.int .i64 0, .slice none 0 0] 24)).heap.size ((w.alloc (.cells #[.int .i64 (v : Int), u] 24)).alloc (.cells #[.int .i64 0, .slice none 0 0] 24)) W → (W.cell? ⟨w.heap.size, 0, none⟩ = some (.int .i64 (v : Int)) ∧ W.cell? ⟨w.heap.size, 1, none⟩ = some u) ∧ W.heap[w.heap.size + 1]? = some (.cells #[.int .i64 0, .slice none 0 0] 24 (0, 0)) := fun W h =>
  ⟨des_box (v : Int) u w W (Below.next (balloc _ _) h), (h.block _ (by simp)).trans (by have := heap_alloc_new (w.alloc (.cells #[.int .i64 (v : Int), u] 24)) (.cells #[.int .i64 0, .slice none 0 0] 24); rw [World.size_alloc] at this; exact this)⟩
set_option maxRecDepth 100000 in
set_option maxHeartbeats 4000000 in
theorem DoubleOf_full (v : Nat) (hv : 16 < v) (hv4 : v ≤ 40) (n : Nat) (u : Value) (w : World) (hu : ∃ a c, u = .slice a n c) :
    Calls Try.prog 16 #[.agg #[.int .i64 (v : Int), u]] w fun e w' => e = .returned (.tuple #[.agg #[.int .i64 0, .slice none 0 0], .int .i64 3]) ∧ Below w.heap.size w w' := by
  have HC : Hid (∀ W, Below ((w.alloc (.cells #[.int .i64 (v : Int), u] 24)).alloc (.cells #[.int .i64 0, .slice none 0 0] 24)).heap.size ((w.alloc (.cells #[.int .i64 (v : Int), u] 24)).alloc (.cells #[.int .i64 0, .slice none 0 0] 24)) W → (W.cell? ⟨w.heap.size, 0, none⟩ = some (.int .i64 (v : Int)) ∧ W.cell? ⟨w.heap.size, 1, none⟩ = some u) ∧ W.heap[w.heap.size + 1]? = some (.cells #[.int .i64 0, .slice none 0 0] 24 (0, 0))) := two_box v u w
  have HB0 : Hid (Below w.heap.size w ((w.alloc (.cells #[.int .i64 (v : Int), u] 24)).alloc (.cells #[.int .i64 0, .slice none 0 0] 24))) := Below.next (balloc _ _) (balloc _ _)
  obtain ⟨ua, uc, rfl⟩ := hu
  obtain ⟨⟨x0, x1⟩, hr⟩ := HC.out _ (Below.refl _ _)
  have z0 := frozen_of_row _ _ 0 _ _ hr
  have z1 := frozen_of_row _ _ 1 _ _ hr
  have y0 := cell_of_row _ _ 0 _ _ _ hr
  have y1 := cell_of_row _ _ 1 _ _ _ hr
  have H7 : Hid (_ ∧ _) := res_none hr HB0.out (Nat.le_succ _)
  have H8 : Hid (_ ∧ Below w.heap.size w _) := ⟨hr, HB0.out⟩
  have g1 : decide (2 * (v : Int) + 1 > 33) = true := by simp; omega
  have g1' : decide (33 < 2 * (v : Int) + 1) = true := by simp; omega
  have g2 : 33 < 2 * (v : Int) + 1 := by omega
  clear hr HC
  go_enter Try.func16, Try.ntmps16
  go_wp2
  first
    | exact post_d2 2 3 rfl rfl H8.out.1 rfl rfl ⟨rfl, H8.out.2⟩
    | exact post_d2 2 3 rfl rfl H7.out.1 rfl rfl ⟨rfl, H7.out.2⟩
theorem tri_getD {v : Nat} {b : List Nat} (h : b.length = 3) : tri v b = [[b.getD 0 0, b.getD 1 0 + v, b.getD 2 0 + v], [b.getD 1 0, b.getD 0 0 + v, b.getD 2 0 + v], [b.getD 2 0, b.getD 0 0 + v, b.getD 1 0 + v]] := by
  match b, h with
  | [x, y, z], _ => rfl
theorem tri_succ {v i : Nat} {B : List (List Nat)} {b : List Nat} (h : B[i]? = some b) (h3 : b.length = 3) : (B.take (i + 1)).flatMap (tri v) = (B.take i).flatMap (tri v) ++ [[b.getD 0 0, b.getD 1 0 + v, b.getD 2 0 + v]] ++ [[b.getD 1 0, b.getD 0 0 + v, b.getD 2 0 + v]] ++ [[b.getD 2 0, b.getD 0 0 + v, b.getD 1 0 + v]] := by
  rw [List.take_add_one, h, List.flatMap_append]
  simp [tri_getD h3]
theorem tri_len {v : Nat} : ∀ {B : List (List Nat)}, (∀ b ∈ B, b.length = 3) → (B.flatMap (tri v)).length = 3 * B.length
  | [], _ => rfl
  | b :: B, h => by
    rw [List.flatMap_cons, List.length_append, tri_len fun c hc => h c (List.mem_cons_of_mem _ hc), tri_getD (h b (List.mem_cons_self))]
    simp; omega
theorem dbl_three {v : Nat} {B : List (List Nat)} (h3 : ∀ b ∈ B, b.length = 3) : ∀ b ∈ dbl v B, b.length = 3 := fun b hb => by
  unfold dbl spk at hb
  rcases List.mem_append.1 hb with hb | hb
  · rcases List.mem_append.1 hb with hb | hb
    · exact h3 b hb
    · obtain ⟨_, _, rfl⟩ := List.mem_map.1 hb; rfl
  · obtain ⟨c, hc, hb⟩ := List.mem_flatMap.1 hb
    rw [tri_getD (h3 c hc)] at hb
    simp at hb
    rcases hb with rfl | rfl | rfl <;> rfl
def spkX (v x : Nat) : List (List Nat) := (List.range x).map fun x => [x, x + v, 2 * v]
theorem spkX_succ (v x : Nat) : spkX v (x + 1) = spkX v x ++ [[x, x + v, 2 * v]] := by unfold spkX; rw [List.range_succ, List.map_append]; rfl
set_option maxRecDepth 100000 in
set_option maxHeartbeats 16000000 in
theorem DoubleOf_main (v : Nat) (B : List (List Nat)) (u : Value) (w : World) (hv : v ≤ 16) (hB2 : B.length ≤ 200) (hb3 : ∀ b ∈ B, b.length = 3 ∧ ∀ x ∈ b, x < v) (hu : Rw w u (toZ B)) :
    Calls Try.prog 16 #[.agg #[.int .i64 (v : Int), u]] w fun e w' => ∃ x Z, e = .returned (.tuple #[.agg #[.int .i64 ((2 * v + 1 : Nat) : Int), x], .int .i64 0]) ∧ Ordd (dbl v B) Z ∧ Rw w' x (toZ Z) ∧ Below w.heap.size w w' := by
  obtain ⟨news, hsrc, hone, hnew⟩ := src_rows hu
  obtain ⟨a, c, rfl, hD⟩ := drow_of hu
  have HC : Hid (∀ W, Below ((w.alloc (.cells #[.int .i64 (v : Int), .slice a B.length c] 24)).alloc (.cells #[.int .i64 0, .slice none 0 0] 24)).heap.size ((w.alloc (.cells #[.int .i64 (v : Int), .slice a B.length c] 24)).alloc (.cells #[.int .i64 0, .slice none 0 0] 24)) W → (W.cell? ⟨w.heap.size, 0, none⟩ = some (.int .i64 (v : Int)) ∧ W.cell? ⟨w.heap.size, 1, none⟩ = some (.slice a B.length c)) ∧ W.heap[w.heap.size + 1]? = some (.cells #[.int .i64 0, .slice none 0 0] 24 (0, 0))) := two_box v _ w
  have HB0 : Hid (Below w.heap.size w ((w.alloc (.cells #[.int .i64 (v : Int), .slice a B.length c] 24)).alloc (.cells #[.int .i64 0, .slice none 0 0] 24))) := Below.next (balloc _ _) (balloc _ _)
  have HZ0 : Hid (((w.alloc (.cells #[.int .i64 (v : Int), .slice a B.length c] 24)).alloc (.cells #[.int .i64 0, .slice none 0 0] 24)).heap.size = w.heap.size + 2) := by show _ = _; simp
  have HD3 : Hid (∀ b ∈ dbl v B, b.length = 3) := dbl_three fun b hb => (hb3 b hb).1
  have HIO : Hid (∀ (MD : List (List Nat)), MD = dbl v B → ∀ (W : World) (u : Value), Rw W u (toZ MD) → MD.length ≤ 6000 → Calls Try.prog 28 #[u] W fun e w' => ∃ x Z, e = .returned x ∧ Ordd MD Z ∧ OR w' W.heap.size x Z ∧ Below W.heap.size W w') := fun MD e W u h h' => InOrder_any MD u W h (by rw [e]; exact HD3.out) h'
  have HRO : Hid (∀ i, i < B.length → _) := fun i hi => rows3 (fun b hb => ⟨(hb3 b hb).1, fun x hx => by have := (hb3 b hb).2 x hx; omega⟩) hD i hi
  have H3 : Hid (∀ (i : Nat) (b : List Nat), B[i]? = some b → b.length = 3) := fun i b h => (hb3 b (List.mem_of_getElem? h)).1
  have HTS : Hid (∀ (i : Nat) (b : List Nat), B[i]? = some b → (B.take (i + 1)).flatMap (tri v) = (B.take i).flatMap (tri v) ++ [[b.getD 0 0, b.getD 1 0 + v, b.getD 2 0 + v]] ++ [[b.getD 1 0, b.getD 0 0 + v, b.getD 2 0 + v]] ++ [[b.getD 2 0, b.getD 0 0 + v, b.getD 1 0 + v]]) := fun i b h => tri_succ h (hb3 b (List.mem_of_getElem? h)).1
  have HTL : Hid (∀ i, ((B.take i).flatMap (tri v)).length ≤ 600) := fun i => by
    rw [tri_len fun b hb => (hb3 b (List.mem_of_mem_take hb)).1, List.length_take]; omega
  have HSX : Hid (∀ x, spkX v (x + 1) = spkX v x ++ [[x, x + v, 2 * v]]) := spkX_succ v
  have HSL : Hid (∀ x, (spkX v x).length = x) := fun x => by unfold spkX; simp
  have HEND : Hid (∀ n, n = B.length → B ++ spkX v v ++ (B.take n).flatMap (tri v) = dbl v B) := fun n e => by rw [e, List.take_length]; rfl
  have HTS0 : Hid ((B.take 0).flatMap (tri v) = []) := rfl
  have HSRC : Hid (∀ W, Below w.heap.size w W → SrcC W (.slice a B.length c) B.length news) := hsrc
  have HNEW : Hid (∀ (W : World) (v' : Value), W.ownsRow (w.heap.size + 2) 45 1 v' B.length news → OM w W (w.heap.size + 2) v' B) := fun W v' h => ⟨news, h, fun i u l h1 h2 => .inr (hnew i u l h1 h2)⟩
  obtain ⟨MD, HMD⟩ : ∃ MD, Hid (dbl v B = MD) := ⟨_, rfl⟩
  have HIO2 := HIO.out MD HMD.out.symm
  have HI : Hid (∀ (W : World) (u : Value), Rw W u (toZ MD) → MD.length ≤ 6000 → Calls Try.prog 28 #[u] W fun e w' => ∃ x Z, e = .returned x ∧ Ordd MD Z ∧ OR w' W.heap.size x Z ∧ Below W.heap.size W w') := HIO2
  rw [HMD.out]
  generalize hBn : B.length = n at *
  have HBn : Hid (B.length = n) := hBn
  obtain ⟨w0, Hw0⟩ : ∃ w0, Hid (w0 = (w.alloc (.cells #[.int .i64 (v : Int), .slice a n c] 24)).alloc (.cells #[.int .i64 0, .slice none 0 0] 24)) := ⟨_, rfl⟩
  obtain ⟨⟨x0, x1⟩, xr⟩ := HC.out _ (Below.refl _ _)
  rw [← Hw0.out] at HC HB0 HZ0
  obtain ⟨i45, ji3, jz0, jz1, jz2⟩ := info36
  have hE1 := heap_alloc_new w0 (.cells #[] 45)
  rw [HZ0.out] at hE1
  have HE1 : Hid ((w0.alloc (.cells #[] 45)).ownsRow (w.heap.size + 2) 45 1 (.slice (some ⟨w.heap.size + 2, 0, none⟩) 0 0) 0 []) := ⟨rfl, .inr ⟨w.heap.size + 2, 0, #[], rfl, Nat.le_refl _, hE1, Nat.le_refl _, by unfold maxLen; omega, rfl, rfl⟩⟩
  have HS1 : Hid (SrcC (w0.alloc (.cells #[] 45)) (.slice a n c) n news) := HSRC.out _ (Below.next HB0.out (balloc _ _))
  have HSZ1 : Hid ((w0.alloc (.cells #[] 45)).heap.size = w.heap.size + 3) := by show _ = _; rw [World.size_alloc, HZ0.out]
  have HB1 : Hid (∀ W, (w0.alloc (.cells #[] 45)).grownBy W (some (w.heap.size + 2)) → Below (w.heap.size + 2) w0 W) := fun W hg => ((balloc w0 (.cells #[] 45)).mono (by rw [HZ0.out]; exact Nat.le_refl _)).grown hg (by rw [HSZ1.out]; omega) (fun k hk => by cases hk; exact Nat.le_refl _)
  have HBW : Hid (∀ W, Below (w.heap.size + 2) w0 W → Below w.heap.size w W) := fun W h => HB0.out.trans (h.mono (by omega))
  have HCW : Hid (∀ W, Below (w.heap.size + 2) w0 W → (W.cell? ⟨w.heap.size, 0, none⟩ = some (.int .i64 (v : Int)) ∧ W.cell? ⟨w.heap.size, 1, none⟩ = some (.slice a n c)) ∧ W.heap[w.heap.size + 1]? = some (.cells #[.int .i64 0, .slice none 0 0] 24 (0, 0))) := fun W h => HC.out W (by rw [HZ0.out]; exact h)
  have HSW : Hid (∀ W, Below (w.heap.size + 2) w0 W → w.heap.size + 2 ≤ W.heap.size) := fun W h => by have := h.size; have := HZ0.out; omega
  have HONE : Hid (∀ x ∈ news, x.oneCell' = true) := hone
  have g1 : decide (2 * (v : Int) + 1 > 33) = false := by simp; omega
  have g1' : decide (33 < 2 * (v : Int) + 1) = false := by simp; omega
  have g2 : ¬ 33 < 2 * (v : Int) + 1 := by omega
  clear hsrc hone hnew hD hb3 hBn hu hE1 HC HIO HIO2 HD3 xr HSRC
  go_enter Try.func16, Try.ntmps16
  go_wp2_with (first
    | (at_builtin; rw [← Hw0.out]; refine wpList_append_srcC _ rfl _ _ 22 rfl (w.heap.size + 2) 45 i45 (.slice none 0 0) 24 undR ji3 jz0 jz1 jz2 rfl _ 0 [] rfl HE1.out _ n news rfl HS1.out HONE.out ?c3 ?c4 ?c5 ?_)
    | go_in)
  case c3 => unfold maxLen; omega
  case c4 => omega
  case c5 => have := HZ0.out; have := HSZ1.out; omega
  intro v1 w1 hown hgr
  try rw [Nat.zero_add] at hown
  try rw [List.nil_append] at hown
  have HO0 : Hid (OM w w1 (w.heap.size + 2) v1 B) := HNEW.out w1 v1 hown
  have HB2 : Hid (Below (w.heap.size + 2) w0 w1) := HB1.out w1 hgr
  clear hown hgr HE1 HS1 HONE HNEW HB1 x0 x1
  go_wp2
  go_loopw [5, 6] (fun lv xv wr => ∃ (x : Nat), xv = .int .i64 (x : Int) ∧ x ≤ v ∧ OM w wr (w.heap.size + 2) lv (B ++ spkX v x) ∧ Below (w.heap.size + 2) w0 wr) (fun _ xv _ => (v - intOf xv).toNat)
  case atStart => exact ⟨0, rfl, by omega, by rw [show spkX v 0 = [] from rfl, List.append_nil]; exact HO0.out, HB2.out⟩
  case round =>
    clear HO0 HB2
    obtain ⟨x, rfl, hx, hO, hB⟩ := hrel
    obtain ⟨oa, oc, rfl⟩ := hO.form
    have hsz := HSW.out _ hB
    obtain ⟨LL, HLL⟩ : ∃ LL, Hid (B ++ spkX v x = LL) := ⟨_, rfl⟩
    have hlen : LL.length ≤ 300 := by rw [← HLL.out, List.length_append, HSL.out, HBn.out]; omega
    rw [HLL.out] at hO ⊢
    obtain ⟨ln, HLN⟩ : ∃ ln, Hid (LL.length = ln) := ⟨_, rfl⟩
    rw [HLN.out] at hO hlen ⊢
    by_cases hlt : x < v
    · have hdi : decide ((x : Int) < (v : Int)) = true := by simp; omega
      have hii : (x : Int) < (v : Int) := by omega
      have HUS : Hid (B ++ spkX v (x + 1) = LL ++ [[x, x + v, 2 * v]]) := by show _ = _; rw [HSX.out, ← List.append_assoc, HLL.out]
      obtain ⟨vals, h1, h2⟩ := hO
      have H1 : Hid (wr.ownsRow (w.heap.size + 2) 45 1 (.slice oa ln oc) LL.length vals) := h1
      have H2 : Hid (∀ (i : Nat) (u : Value) (l : List Nat), vals[i]? = some u → LL[i]? = some l → ORow wr (w.heap.size + 2) u l ∨ Sl w u (l.map Int.ofNat)) := h2
      rw [HLN.out] at h1
      clear h2
      go_wp2_with (first
        | (at_builtin; refine wpList_append_own _ rfl _ _ 22 rfl (w.heap.size + 2) 45 i45 (.slice none 0 0) 1 24 undR ji3 jz0 jz1 jz2 rfl (by decide) _ _ _ rfl ((h1.alloc _).alloc _) ⟨wr.heap.size + 1, 0, none⟩ 1 1 [.slice (some ⟨wr.heap.size, 0, none⟩) 3 3] rfl rfl ?c1 ?c2 ?c3 ?c4 ?c5 ?_)
        | go_in)
      case c1 =>
        intro j u hj
        match j, hj with
        | 0, hj => simp at hj; subst hj; simp [Addr.add]
      case c2 => intro u hu; simp at hu; subst hu; rfl
      case c3 => unfold maxLen; omega
      case c4 => omega
      case c5 => simp; omega
      · intro v' w2 hown' hgrow _
        have hap := om_app3 (L := LL) (x := x) (y := x + v) (z := 2 * v) H1.out H2.out HLN.out (by omega) hown' hgrow (by omega) (by omega) (by omega)
        rw [← HUS.out] at hap
        have hBn := hB.trans hap.2
        have hOn := hap.1
        clear hap hown' hgrow h1 hB
        go_wp2
        go_roundw
        case rel => exact ⟨x + 1, by go_num, by omega, hOn, hBn⟩
        case measure => simp [intOf]; omega
    · have hdi : decide ((x : Int) < (v : Int)) = false := by simp; omega
      have hxm : v = x := by omega
      subst hxm
      have HOP : Hid (OM w wr (w.heap.size + 2) (.slice oa ln oc) LL) := hO
      have HBP : Hid (Below (w.heap.size + 2) w0 wr) := hB
      rw [HLL.out] at HEND
      have HPL : Hid (LL.length ≤ 300) := by show _ ≤ _; rw [HLN.out]; exact hlen
      clear hO hB HLL hlen hsz HLN hx hlt hdi
      generalize LL = PP at *
      go_wp2
      go_loopw [5, 7] (fun lv iv wr => ∃ (i : Nat), iv = .int .i64 (i : Int) ∧ i ≤ n ∧ OM w wr (w.heap.size + 2) lv (PP ++ (B.take i).flatMap (tri v)) ∧ Below (w.heap.size + 2) w0 wr) (fun _ iv _ => (n - intOf iv).toNat)
      case atStart => exact ⟨0, rfl, by omega, by rw [HTS0.out, List.append_nil]; exact HOP.out, HBP.out⟩
      case round =>
        clear HOP HBP
        obtain ⟨i, rfl, hi, hO, hB⟩ := hrel
        obtain ⟨oa, oc, rfl⟩ := hO.form
        have hsz := HSW.out _ hB
        obtain ⟨⟨k0, k1⟩, hr⟩ := HCW.out _ hB
        obtain ⟨LL, HLL⟩ : ∃ LL, Hid (PP ++ (B.take i).flatMap (tri v) = LL) := ⟨_, rfl⟩
        have hlen : LL.length ≤ 900 := by rw [← HLL.out, List.length_append]; have := HTL.out i; have := HPL.out; omega
        rw [HLL.out] at hO ⊢
        by_cases hlt : i < n
        · have hdi : decide ((i : Int) < (n : Int)) = true := by simp; omega
          have hii : (i : Int) < (n : Int) := by omega
          have hni : ¬ (n : Int) ≤ (i : Int) := by omega
          obtain ⟨b, bb, off, bq, oq, uc, hbi, hb99, rfl, hrow⟩ := HRO.out i hlt
          obtain ⟨r0, rc⟩ := hrow wr (HBW.out wr hB)
          have HRW : Hid (∀ W, Below (w.heap.size + 2) w0 W → W.cell? ⟨bq, oq, none⟩ = some (.int .i64 ((b.getD 0 0 : Nat) : Int)) ∧ W.cell? ⟨bq, oq + 1, none⟩ = some (.int .i64 ((b.getD 1 0 : Nat) : Int)) ∧ W.cell? ⟨bq, oq + 2, none⟩ = some (.int .i64 ((b.getD 2 0 : Nat) : Int))) := fun W h => ⟨(hrow W (HBW.out W h)).2 0 (by omega), (hrow W (HBW.out W h)).2 1 (by omega), (hrow W (HBW.out W h)).2 2 (by omega)⟩
          have hts := HTS.out i b hbi
          have HNX : Hid (PP ++ (B.take (i + 1)).flatMap (tri v) = LL ++ [[b.getD 0 0, b.getD 1 0 + v, b.getD 2 0 + v]] ++ [[b.getD 1 0, b.getD 0 0 + v, b.getD 2 0 + v]] ++ [[b.getD 2 0, b.getD 0 0 + v, b.getD 1 0 + v]]) := by show _ = _; rw [hts, ← List.append_assoc, ← List.append_assoc, ← List.append_assoc, HLL.out]
          have q0 := hb99 0
          have q1 := hb99 1
          have q2 := hb99 2
          have HOM : Hid (OM w wr (w.heap.size + 2) (.slice oa LL.length oc) LL) := hO
          obtain ⟨ln, HLN⟩ : ∃ ln, Hid (LL.length = ln) := ⟨_, rfl⟩
          rw [HLN.out] at hlen HOM ⊢
          generalize b.getD 0 0 = e0 at *
          generalize b.getD 1 0 = e1 at *
          generalize b.getD 2 0 = e2 at *
          have hw0 : IntKind.i64.wrap ((e0 : Int) + (v : Int)) = (e0 : Int) + (v : Int) := by rw [IntKind.wrap_i64]; omega
          have hw1 : IntKind.i64.wrap ((e1 : Int) + (v : Int)) = (e1 : Int) + (v : Int) := by rw [IntKind.wrap_i64]; omega
          have hw2 : IntKind.i64.wrap ((e2 : Int) + (v : Int)) = (e2 : Int) + (v : Int) := by rw [IntKind.wrap_i64]; omega
          clear hts hrow hbi hb99 rc hO HLL
          go_wp2
          clear r0 k0 k1 hr
          refine wp_region_noPanic ?_
          refine wp_region_held_drew (S := fun w' => w'.cell? ⟨bq, oq, none⟩ = some (.int .i64 (e0 : Int)) ∧ w'.cell? ⟨bq, oq + 1, none⟩ = some (.int .i64 (e1 : Int)) ∧ w'.cell? ⟨bq, oq + 2, none⟩ = some (.int .i64 (e2 : Int))) (by kernel_rfl) (HRW.out _ hB.drew) (fun hSx => ?_)
          refine wpAnyH_take (i := 0) (v := .slice oa ln oc) rfl (by kernel_rfl) (by kernel_rfl) (by kernel_rfl) (fun _ _ _ h => h) (Or.inl ⟨by rfl, fun w' hSw => by (try dsimp only at hSw); obtain ⟨hs0, hs1, hs2⟩ := hSw; go_simp⟩) hSx ?_
          try simp only [Act.put, List.setIfInBounds_toArray]
          refine wpAnyH_take (i := 1) (v := .slice (some ⟨bq, oq, none⟩) 3 uc) rfl (by kernel_rfl) (by kernel_rfl) (by kernel_rfl) (fun _ _ _ h => h) (Or.inl ⟨by rfl, fun w' hSw => by (try dsimp only at hSw); obtain ⟨hs0, hs1, hs2⟩ := hSw; go_simp⟩) hSx ?_
          try simp only [Act.put]
          refine wpAnyH_take (i := 2) (v := .pointer (some ⟨bq, oq, none⟩)) rfl (by kernel_rfl) (by kernel_rfl) (by kernel_rfl) (fun _ _ _ h => h) (Or.inl ⟨by rfl, fun w' hSw => by (try dsimp only at hSw); obtain ⟨hs0, hs1, hs2⟩ := hSw; go_simp⟩) hSx ?_
          try simp only [Act.put]
          refine wpAnyH_take (i := 3) (v := .int .i64 (e0 : Int)) rfl (by kernel_rfl) (by kernel_rfl) (by kernel_rfl) (fun _ _ _ h => h) (Or.inl ⟨by rfl, fun w' hSw => by (try dsimp only at hSw); obtain ⟨hs0, hs1, hs2⟩ := hSw; go_simp⟩) hSx ?_
          try simp only [Act.put]
          refine wpAnyH_take (i := 4) (v := .slice (some ⟨bq, oq, none⟩) 3 uc) rfl (by kernel_rfl) (by kernel_rfl) (by kernel_rfl) (fun _ _ _ h => h) (Or.inl ⟨by rfl, fun w' hSw => by (try dsimp only at hSw); obtain ⟨hs0, hs1, hs2⟩ := hSw; go_simp⟩) hSx ?_
          try simp only [Act.put]
          refine wpAnyH_take (i := 5) (v := .pointer (some ⟨bq, oq + 1, none⟩)) rfl (by kernel_rfl) (by kernel_rfl) (by kernel_rfl) (fun _ _ _ h => h) (Or.inl ⟨by rfl, fun w' hSw => by (try dsimp only at hSw); obtain ⟨hs0, hs1, hs2⟩ := hSw; go_simp⟩) hSx ?_
          try simp only [Act.put]
          refine wpAnyH_take (i := 6) (v := .int .i64 (e1 : Int)) rfl (by kernel_rfl) (by kernel_rfl) (by kernel_rfl) (fun _ _ _ h => h) (Or.inl ⟨by rfl, fun w' hSw => by (try dsimp only at hSw); obtain ⟨hs0, hs1, hs2⟩ := hSw; go_simp⟩) hSx ?_
          try simp only [Act.put]
          refine wpAnyH_take (i := 7) (v := .int .i64 (v : Int)) rfl (by kernel_rfl) (by kernel_rfl) (by kernel_rfl) (fun _ _ _ h => h) (Or.inl ⟨by rfl, fun w' hSw => by (try dsimp only at hSw); obtain ⟨hs0, hs1, hs2⟩ := hSw; go_simp⟩) hSx ?_
          try simp only [Act.put]
          refine wpAnyH_take (i := 8) (v := .int .i64 ((e1 : Int) + (v : Int))) rfl (by kernel_rfl) (by kernel_rfl) (by kernel_rfl) (fun _ _ _ h => h) (Or.inl ⟨by rfl, fun w' hSw => by (try dsimp only at hSw); obtain ⟨hs0, hs1, hs2⟩ := hSw; go_simp⟩) hSx ?_
          try simp only [Act.put]
          refine wpAnyH_take (i := 9) (v := .slice (some ⟨bq, oq, none⟩) 3 uc) rfl (by kernel_rfl) (by kernel_rfl) (by kernel_rfl) (fun _ _ _ h => h) (Or.inl ⟨by rfl, fun w' hSw => by (try dsimp only at hSw); obtain ⟨hs0, hs1, hs2⟩ := hSw; go_simp⟩) hSx ?_
          try simp only [Act.put]
          refine wpAnyH_take (i := 10) (v := .pointer (some ⟨bq, oq + 2, none⟩)) rfl (by kernel_rfl) (by kernel_rfl) (by kernel_rfl) (fun _ _ _ h => h) (Or.inl ⟨by rfl, fun w' hSw => by (try dsimp only at hSw); obtain ⟨hs0, hs1, hs2⟩ := hSw; go_simp⟩) hSx ?_
          try simp only [Act.put]
          refine wpAnyH_take (i := 11) (v := .int .i64 (e2 : Int)) rfl (by kernel_rfl) (by kernel_rfl) (by kernel_rfl) (fun _ _ _ h => h) (Or.inl ⟨by rfl, fun w' hSw => by (try dsimp only at hSw); obtain ⟨hs0, hs1, hs2⟩ := hSw; go_simp⟩) hSx ?_
          try simp only [Act.put]
          refine wpAnyH_take (i := 12) (v := .int .i64 (v : Int)) rfl (by kernel_rfl) (by kernel_rfl) (by kernel_rfl) (fun _ _ _ h => h) (Or.inl ⟨by rfl, fun w' hSw => by (try dsimp only at hSw); obtain ⟨hs0, hs1, hs2⟩ := hSw; go_simp⟩) hSx ?_
          try simp only [Act.put]
          refine wpAnyH_take (i := 13) (v := .int .i64 ((e2 : Int) + (v : Int))) rfl (by kernel_rfl) (by kernel_rfl) (by kernel_rfl) (fun _ _ _ h => h) (Or.inl ⟨by rfl, fun w' hSw => by (try dsimp only at hSw); obtain ⟨hs0, hs1, hs2⟩ := hSw; go_simp⟩) hSx ?_
          try simp only [Act.put]
          refine wpAnyH_ready (rs := [14]) (by kernel_rfl) (by simp) ?_
          refine AllReadyH.cons rfl (fun J hJ => ?_) AllReadyH.nil
          go_simp
          have hBa : Below (w.heap.size + 2) w0 (wr.drew.alloc (.cells #[.int .i64 (e0 : Int), .int .i64 ((e1 : Int) + (v : Int)), .int .i64 ((e2 : Int) + (v : Int))] 3)) := hB.drew.trans ((balloc wr.drew (.cells #[.int .i64 (e0 : Int), .int .i64 ((e1 : Int) + (v : Int)), .int .i64 ((e2 : Int) + (v : Int))] 3)).mono hsz)
          refine hJ.out _ _ (HRW.out _ hBa) (fun hSx => ?_)
          clear hJ J
          try simp only [Act.put, List.setIfInBounds_toArray, List.set_cons_zero, List.set_cons_succ]
          refine wpAnyH_ready (rs := [15]) (by kernel_rfl) (by simp) ?_
          refine AllReadyH.cons rfl (fun J hJ => ?_) AllReadyH.nil
          go_simp
          have hBb : Below (w.heap.size + 2) w0 ((wr.drew.alloc (.cells #[.int .i64 (e0 : Int), .int .i64 ((e1 : Int) + (v : Int)), .int .i64 ((e2 : Int) + (v : Int))] 3)).alloc (.cells #[.slice (some ⟨wr.heap.size, 0, none⟩) 3 3] 45)) := hBa.trans ((balloc (wr.drew.alloc (.cells #[.int .i64 (e0 : Int), .int .i64 ((e1 : Int) + (v : Int)), .int .i64 ((e2 : Int) + (v : Int))] 3)) (.cells #[.slice (some ⟨wr.heap.size, 0, none⟩) 3 3] 45)).mono (by rw [World.size_alloc]; exact Nat.le_succ_of_le hsz))
          refine hJ.out _ _ (HRW.out _ hBb) (fun hSx => ?_)
          clear hJ J
          try simp only [Act.put, List.setIfInBounds_toArray, List.set_cons_zero, List.set_cons_succ]
          refine wpAnyH_ready (rs := [16]) (by kernel_rfl) (by simp) ?_
          refine AllReadyH.cons rfl (fun J hJ => ?_) AllReadyH.nil
          rw [if_pos (by rfl)]
          obtain ⟨vals5, h15, h25⟩ := HOM.out
          have H15 : Hid (wr.drew.ownsRow (w.heap.size + 2) 45 1 (.slice oa ln oc) LL.length vals5) := own_keep h15 fun b _ _ => rfl
          have H25 : Hid (∀ (i : Nat) (u : Value) (l : List Nat), vals5[i]? = some u → LL[i]? = some l → ORow wr.drew (w.heap.size + 2) u l ∨ Sl w u (l.map Int.ofNat)) := fun i u l e1 e2 => (h25 i u l e1 e2).imp (fun h => own_keep h fun b _ _ => rfl) id
          have h35 := H15.out
          rw [HLN.out] at h35
          refine wp_append_lies _ _ _ 22 (by rfl) (w.heap.size + 2) 45 i45 (.slice none 0 0) 1 24 undR ji3 jz0 jz1 jz2 rfl (by decide) (.slice oa ln oc) ln vals5 (by rfl) ((h35.alloc _).alloc _) ⟨wr.heap.size + 1, 0, none⟩ 1 1 [.slice (some ⟨wr.heap.size, 0, none⟩) 3 3] (by rfl) rfl ?n5 (fun u hu => by simp at hu; subst hu; rfl) (by decide) (by unfold maxLen; omega) (by omega) (Nat.le_trans (by have := HZ0.out; omega : (w.heap.size + 2) ≤ w0.heap.size) hBb.size) _ rfl ?_
          case n5 =>
            have hnw := news_row (wr.drew.alloc (.cells #[.int .i64 (e0 : Int), .int .i64 ((e1 : Int) + (v : Int)), .int .i64 ((e2 : Int) + (v : Int))] 3)) (.slice (some ⟨wr.heap.size, 0, none⟩) 3 3)
            rw [World.size_alloc] at hnw
            exact hnw
          intro g5 cap5 w5 hown5 hgr5 _ _
          have hap := om_app3 (L := LL) (x := e0) (y := e1 + v) (z := e2 + v) H15.out H25.out HLN.out hsz hown5 hgr5 rfl (by omega) (by omega)
          have hB5 : Below (w.heap.size + 2) w0 w5 := hB.drew.trans hap.2
          have hsz5 := HSW.out _ hB5
          have HOM5 : Hid (OM w w5 (w.heap.size + 2) (.slice (some ⟨g5, 0, none⟩) (ln + 1) cap5) (LL ++ [[e0, e1 + v, e2 + v]])) := hap.1
          clear hap hown5 hgr5 h15 h25 h35 H15 H25 hBa hBb
          refine hJ.out _ _ (HRW.out _ hB5) (fun hSx => ?_)
          clear hJ J
          try simp only [Act.put, List.setIfInBounds_toArray]
          refine wpAnyH_take (i := 17) (v := .slice (some ⟨g5, 0, none⟩) (ln + 1) cap5) rfl (by kernel_rfl) (by kernel_rfl) (by kernel_rfl) (fun _ _ _ h => h) (Or.inl ⟨by rfl, fun w' hSw => by (try dsimp only at hSw); obtain ⟨hs0, hs1, hs2⟩ := hSw; go_simp⟩) hSx ?_
          try simp only [Act.put]
          refine wpAnyH_done (by kernel_rfl) ?_ _
          refine NoPanic.normal ?_
          clear hSx
          try simp only [List.getElem_toArray, List.getElem_cons_succ, List.getElem_cons_zero, List.setIfInBounds_toArray, List.set_cons_zero, List.set_cons_succ]
          obtain ⟨L5, HL5⟩ : ∃ L5, Hid (LL ++ [[e0, e1 + v, e2 + v]] = L5) := ⟨_, rfl⟩
          have HN5 : Hid (L5.length = ln + 1) := by show _ = _; rw [← HL5.out, List.length_append, HLN.out]; rfl
          rw [HL5.out] at HOM5 HNX
          obtain ⟨ln5, Hln5⟩ : ∃ q, Hid (ln + 1 = q) := ⟨_, rfl⟩
          rw [Hln5.out] at HN5 HOM5 ⊢
          have hl5 : ln5 ≤ 901 := by have := Hln5.out; omega
          go_wp2_with fail
          refine wp_region_noPanic ?_
          refine wp_region_held_drew (S := fun w' => w'.cell? ⟨bq, oq, none⟩ = some (.int .i64 (e0 : Int)) ∧ w'.cell? ⟨bq, oq + 1, none⟩ = some (.int .i64 (e1 : Int)) ∧ w'.cell? ⟨bq, oq + 2, none⟩ = some (.int .i64 (e2 : Int))) (by kernel_rfl) (HRW.out _ hB5.drew) (fun hSx => ?_)
          refine wpAnyH_take (i := 0) (v := .slice (some ⟨g5, 0, none⟩) ln5 cap5) rfl (by kernel_rfl) (by kernel_rfl) (by kernel_rfl) (fun _ _ _ h => h) (Or.inl ⟨by rfl, fun w' hSw => by (try dsimp only at hSw); obtain ⟨hs0, hs1, hs2⟩ := hSw; go_simp⟩) hSx ?_
          try simp only [Act.put, List.setIfInBounds_toArray]
          refine wpAnyH_take (i := 1) (v := .slice (some ⟨bq, oq, none⟩) 3 uc) rfl (by kernel_rfl) (by kernel_rfl) (by kernel_rfl) (fun _ _ _ h => h) (Or.inl ⟨by rfl, fun w' hSw => by (try dsimp only at hSw); obtain ⟨hs0, hs1, hs2⟩ := hSw; go_simp⟩) hSx ?_
          try simp only [Act.put]
          refine wpAnyH_take (i := 2) (v := .pointer (some ⟨bq, oq + 1, none⟩)) rfl (by kernel_rfl) (by kernel_rfl) (by kernel_rfl) (fun _ _ _ h => h) (Or.inl ⟨by rfl, fun w' hSw => by (try dsimp only at hSw); obtain ⟨hs0, hs1, hs2⟩ := hSw; go_simp⟩) hSx ?_
          try simp only [Act.put]
          refine wpAnyH_take (i := 3) (v := .int .i64 (e1 : Int)) rfl (by kernel_rfl) (by kernel_rfl) (by kernel_rfl) (fun _ _ _ h => h) (Or.inl ⟨by rfl, fun w' hSw => by (try dsimp only at hSw); obtain ⟨hs0, hs1, hs2⟩ := hSw; go_simp⟩) hSx ?_
          try simp only [Act.put]
          refine wpAnyH_take (i := 4) (v := .slice (some ⟨bq, oq, none⟩) 3 uc) rfl (by kernel_rfl) (by kernel_rfl) (by kernel_rfl) (fun _ _ _ h => h) (Or.inl ⟨by rfl, fun w' hSw => by (try dsimp only at hSw); obtain ⟨hs0, hs1, hs2⟩ := hSw; go_simp⟩) hSx ?_
          try simp only [Act.put]
          refine wpAnyH_take (i := 5) (v := .pointer (some ⟨bq, oq, none⟩)) rfl (by kernel_rfl) (by kernel_rfl) (by kernel_rfl) (fun _ _ _ h => h) (Or.inl ⟨by rfl, fun w' hSw => by (try dsimp only at hSw); obtain ⟨hs0, hs1, hs2⟩ := hSw; go_simp⟩) hSx ?_
          try simp only [Act.put]
          refine wpAnyH_take (i := 6) (v := .int .i64 (e0 : Int)) rfl (by kernel_rfl) (by kernel_rfl) (by kernel_rfl) (fun _ _ _ h => h) (Or.inl ⟨by rfl, fun w' hSw => by (try dsimp only at hSw); obtain ⟨hs0, hs1, hs2⟩ := hSw; go_simp⟩) hSx ?_
          try simp only [Act.put]
          refine wpAnyH_take (i := 7) (v := .int .i64 (v : Int)) rfl (by kernel_rfl) (by kernel_rfl) (by kernel_rfl) (fun _ _ _ h => h) (Or.inl ⟨by rfl, fun w' hSw => by (try dsimp only at hSw); obtain ⟨hs0, hs1, hs2⟩ := hSw; go_simp⟩) hSx ?_
          try simp only [Act.put]
          refine wpAnyH_take (i := 8) (v := .int .i64 ((e0 : Int) + (v : Int))) rfl (by kernel_rfl) (by kernel_rfl) (by kernel_rfl) (fun _ _ _ h => h) (Or.inl ⟨by rfl, fun w' hSw => by (try dsimp only at hSw); obtain ⟨hs0, hs1, hs2⟩ := hSw; go_simp⟩) hSx ?_
          try simp only [Act.put]
          refine wpAnyH_take (i := 9) (v := .slice (some ⟨bq, oq, none⟩) 3 uc) rfl (by kernel_rfl) (by kernel_rfl) (by kernel_rfl) (fun _ _ _ h => h) (Or.inl ⟨by rfl, fun w' hSw => by (try dsimp only at hSw); obtain ⟨hs0, hs1, hs2⟩ := hSw; go_simp⟩) hSx ?_
          try simp only [Act.put]
          refine wpAnyH_take (i := 10) (v := .pointer (some ⟨bq, oq + 2, none⟩)) rfl (by kernel_rfl) (by kernel_rfl) (by kernel_rfl) (fun _ _ _ h => h) (Or.inl ⟨by rfl, fun w' hSw => by (try dsimp only at hSw); obtain ⟨hs0, hs1, hs2⟩ := hSw; go_simp⟩) hSx ?_
          try simp only [Act.put]
          refine wpAnyH_take (i := 11) (v := .int .i64 (e2 : Int)) rfl (by kernel_rfl) (by kernel_rfl) (by kernel_rfl) (fun _ _ _ h => h) (Or.inl ⟨by rfl, fun w' hSw => by (try dsimp only at hSw); obtain ⟨hs0, hs1, hs2⟩ := hSw; go_simp⟩) hSx ?_
          try simp only [Act.put]
          refine wpAnyH_take (i := 12) (v := .int .i64 (v : Int)) rfl (by kernel_rfl) (by kernel_rfl) (by kernel_rfl) (fun _ _ _ h => h) (Or.inl ⟨by rfl, fun w' hSw => by (try dsimp only at hSw); obtain ⟨hs0, hs1, hs2⟩ := hSw; go_simp⟩) hSx ?_
          try simp only [Act.put]
          refine wpAnyH_take (i := 13) (v := .int .i64 ((e2 : Int) + (v : Int))) rfl (by kernel_rfl) (by kernel_rfl) (by kernel_rfl) (fun _ _ _ h => h) (Or.inl ⟨by rfl, fun w' hSw => by (try dsimp only at hSw); obtain ⟨hs0, hs1, hs2⟩ := hSw; go_simp⟩) hSx ?_
          try simp only [Act.put]
          refine wpAnyH_ready (rs := [14]) (by kernel_rfl) (by simp) ?_
          refine AllReadyH.cons rfl (fun J hJ => ?_) AllReadyH.nil
          go_simp
          have hBa : Below (w.heap.size + 2) w0 (w5.drew.alloc (.cells #[.int .i64 (e1 : Int), .int .i64 ((e0 : Int) + (v : Int)), .int .i64 ((e2 : Int) + (v : Int))] 3)) := hB5.drew.trans ((balloc w5.drew (.cells #[.int .i64 (e1 : Int), .int .i64 ((e0 : Int) + (v : Int)), .int .i64 ((e2 : Int) + (v : Int))] 3)).mono hsz5)
          refine hJ.out _ _ (HRW.out _ hBa) (fun hSx => ?_)
          clear hJ J
          try simp only [Act.put, List.setIfInBounds_toArray, List.set_cons_zero, List.set_cons_succ]
          refine wpAnyH_ready (rs := [15]) (by kernel_rfl) (by simp) ?_
          refine AllReadyH.cons rfl (fun J hJ => ?_) AllReadyH.nil
          go_simp
          have hBb : Below (w.heap.size + 2) w0 ((w5.drew.alloc (.cells #[.int .i64 (e1 : Int), .int .i64 ((e0 : Int) + (v : Int)), .int .i64 ((e2 : Int) + (v : Int))] 3)).alloc (.cells #[.slice (some ⟨w5.heap.size, 0, none⟩) 3 3] 45)) := hBa.trans ((balloc (w5.drew.alloc (.cells #[.int .i64 (e1 : Int), .int .i64 ((e0 : Int) + (v : Int)), .int .i64 ((e2 : Int) + (v : Int))] 3)) (.cells #[.slice (some ⟨w5.heap.size, 0, none⟩) 3 3] 45)).mono (by rw [World.size_alloc]; exact Nat.le_succ_of_le hsz5))
          refine hJ.out _ _ (HRW.out _ hBb) (fun hSx => ?_)
          clear hJ J
          try simp only [Act.put, List.setIfInBounds_toArray, List.set_cons_zero, List.set_cons_succ]
          refine wpAnyH_ready (rs := [16]) (by kernel_rfl) (by simp) ?_
          refine AllReadyH.cons rfl (fun J hJ => ?_) AllReadyH.nil
          rw [if_pos (by rfl)]
          obtain ⟨vals6, h16, h26⟩ := HOM5.out
          have H16 : Hid (w5.drew.ownsRow (w.heap.size + 2) 45 1 (.slice (some ⟨g5, 0, none⟩) ln5 cap5) L5.length vals6) := own_keep h16 fun b _ _ => rfl
          have H26 : Hid (∀ (i : Nat) (u : Value) (l : List Nat), vals6[i]? = some u → L5[i]? = some l → ORow w5.drew (w.heap.size + 2) u l ∨ Sl w u (l.map Int.ofNat)) := fun i u l e1 e2 => (h26 i u l e1 e2).imp (fun h => own_keep h fun b _ _ => rfl) id
          have h36 := H16.out
          rw [HN5.out] at h36
          refine wp_append_lies _ _ _ 22 (by rfl) (w.heap.size + 2) 45 i45 (.slice none 0 0) 1 24 undR ji3 jz0 jz1 jz2 rfl (by decide) (.slice (some ⟨g5, 0, none⟩) ln5 cap5) ln5 vals6 (by rfl) ((h36.alloc _).alloc _) ⟨w5.heap.size + 1, 0, none⟩ 1 1 [.slice (some ⟨w5.heap.size, 0, none⟩) 3 3] (by rfl) rfl ?n6 (fun u hu => by simp at hu; subst hu; rfl) (by decide) (by unfold maxLen; omega) (by omega) (Nat.le_trans (by have := HZ0.out; omega : (w.heap.size + 2) ≤ w0.heap.size) hBb.size) _ rfl ?_
          case n6 =>
            have hnw := news_row (w5.drew.alloc (.cells #[.int .i64 (e1 : Int), .int .i64 ((e0 : Int) + (v : Int)), .int .i64 ((e2 : Int) + (v : Int))] 3)) (.slice (some ⟨w5.heap.size, 0, none⟩) 3 3)
            rw [World.size_alloc] at hnw
            exact hnw
          intro g6 cap6 w6 hown6 hgr6 _ _
          have hap := om_app3 (L := L5) (x := e1) (y := e0 + v) (z := e2 + v) H16.out H26.out HN5.out hsz5 hown6 hgr6 rfl (by omega) (by omega)
          have hB6 : Below (w.heap.size + 2) w0 w6 := hB5.drew.trans hap.2
          have hsz6 := HSW.out _ hB6
          have HOM6 : Hid (OM w w6 (w.heap.size + 2) (.slice (some ⟨g6, 0, none⟩) (ln5 + 1) cap6) (L5 ++ [[e1, e0 + v, e2 + v]])) := hap.1
          clear hap hown6 hgr6 h16 h26 h36 H16 H26 hBa hBb
          refine hJ.out _ _ (HRW.out _ hB6) (fun hSx => ?_)
          clear hJ J
          try simp only [Act.put, List.setIfInBounds_toArray]
          refine wpAnyH_take (i := 17) (v := .slice (some ⟨g6, 0, none⟩) (ln5 + 1) cap6) rfl (by kernel_rfl) (by kernel_rfl) (by kernel_rfl) (fun _ _ _ h => h) (Or.inl ⟨by rfl, fun w' hSw => by (try dsimp only at hSw); obtain ⟨hs0, hs1, hs2⟩ := hSw; go_simp⟩) hSx ?_
          try simp only [Act.put]
          refine wpAnyH_done (by kernel_rfl) ?_ _
          refine NoPanic.normal ?_
          clear hSx
          try simp only [List.getElem_toArray, List.getElem_cons_succ, List.getElem_cons_zero, List.setIfInBounds_toArray, List.set_cons_zero, List.set_cons_succ]
          obtain ⟨L6, HL6⟩ : ∃ L6, Hid (L5 ++ [[e1, e0 + v, e2 + v]] = L6) := ⟨_, rfl⟩
          have HN6 : Hid (L6.length = ln5 + 1) := by show _ = _; rw [← HL6.out, List.length_append, HN5.out]; rfl
          rw [HL6.out] at HOM6 HNX
          obtain ⟨ln6, Hln6⟩ : ∃ q, Hid (ln5 + 1 = q) := ⟨_, rfl⟩
          rw [Hln6.out] at HN6 HOM6 ⊢
          have hl6 : ln6 ≤ 902 := by have := Hln6.out; omega
          go_wp2_with fail
          refine wp_region_noPanic ?_
          refine wp_region_held_drew (S := fun w' => w'.cell? ⟨bq, oq, none⟩ = some (.int .i64 (e0 : Int)) ∧ w'.cell? ⟨bq, oq + 1, none⟩ = some (.int .i64 (e1 : Int)) ∧ w'.cell? ⟨bq, oq + 2, none⟩ = some (.int .i64 (e2 : Int))) (by kernel_rfl) (HRW.out _ hB6.drew) (fun hSx => ?_)
          refine wpAnyH_take (i := 0) (v := .slice (some ⟨g6, 0, none⟩) ln6 cap6) rfl (by kernel_rfl) (by kernel_rfl) (by kernel_rfl) (fun _ _ _ h => h) (Or.inl ⟨by rfl, fun w' hSw => by (try dsimp only at hSw); obtain ⟨hs0, hs1, hs2⟩ := hSw; go_simp⟩) hSx ?_
          try simp only [Act.put, List.setIfInBounds_toArray]
          refine wpAnyH_take (i := 1) (v := .slice (some ⟨bq, oq, none⟩) 3 uc) rfl (by kernel_rfl) (by kernel_rfl) (by kernel_rfl) (fun _ _ _ h => h) (Or.inl ⟨by rfl, fun w' hSw => by (try dsimp only at hSw); obtain ⟨hs0, hs1, hs2⟩ := hSw; go_simp⟩) hSx ?_
          try simp only [Act.put]
          refine wpAnyH_take (i := 2) (v := .pointer (some ⟨bq, oq + 2, none⟩)) rfl (by kernel_rfl) (by kernel_rfl) (by kernel_rfl) (fun _ _ _ h => h) (Or.inl ⟨by rfl, fun w' hSw => by (try dsimp only at hSw); obtain ⟨hs0, hs1, hs2⟩ := hSw; go_simp⟩) hSx ?_
          try simp only [Act.put]
          refine wpAnyH_take (i := 3) (v := .int .i64 (e2 : Int)) rfl (by kernel_rfl) (by kernel_rfl) (by kernel_rfl) (fun _ _ _ h => h) (Or.inl ⟨by rfl, fun w' hSw => by (try dsimp only at hSw); obtain ⟨hs0, hs1, hs2⟩ := hSw; go_simp⟩) hSx ?_
          try simp only [Act.put]
          refine wpAnyH_take (i := 4) (v := .slice (some ⟨bq, oq, none⟩) 3 uc) rfl (by kernel_rfl) (by kernel_rfl) (by kernel_rfl) (fun _ _ _ h => h) (Or.inl ⟨by rfl, fun w' hSw => by (try dsimp only at hSw); obtain ⟨hs0, hs1, hs2⟩ := hSw; go_simp⟩) hSx ?_
          try simp only [Act.put]
          refine wpAnyH_take (i := 5) (v := .pointer (some ⟨bq, oq, none⟩)) rfl (by kernel_rfl) (by kernel_rfl) (by kernel_rfl) (fun _ _ _ h => h) (Or.inl ⟨by rfl, fun w' hSw => by (try dsimp only at hSw); obtain ⟨hs0, hs1, hs2⟩ := hSw; go_simp⟩) hSx ?_
          try simp only [Act.put]
          refine wpAnyH_take (i := 6) (v := .int .i64 (e0 : Int)) rfl (by kernel_rfl) (by kernel_rfl) (by kernel_rfl) (fun _ _ _ h => h) (Or.inl ⟨by rfl, fun w' hSw => by (try dsimp only at hSw); obtain ⟨hs0, hs1, hs2⟩ := hSw; go_simp⟩) hSx ?_
          try simp only [Act.put]
          refine wpAnyH_take (i := 7) (v := .int .i64 (v : Int)) rfl (by kernel_rfl) (by kernel_rfl) (by kernel_rfl) (fun _ _ _ h => h) (Or.inl ⟨by rfl, fun w' hSw => by (try dsimp only at hSw); obtain ⟨hs0, hs1, hs2⟩ := hSw; go_simp⟩) hSx ?_
          try simp only [Act.put]
          refine wpAnyH_take (i := 8) (v := .int .i64 ((e0 : Int) + (v : Int))) rfl (by kernel_rfl) (by kernel_rfl) (by kernel_rfl) (fun _ _ _ h => h) (Or.inl ⟨by rfl, fun w' hSw => by (try dsimp only at hSw); obtain ⟨hs0, hs1, hs2⟩ := hSw; go_simp⟩) hSx ?_
          try simp only [Act.put]
          refine wpAnyH_take (i := 9) (v := .slice (some ⟨bq, oq, none⟩) 3 uc) rfl (by kernel_rfl) (by kernel_rfl) (by kernel_rfl) (fun _ _ _ h => h) (Or.inl ⟨by rfl, fun w' hSw => by (try dsimp only at hSw); obtain ⟨hs0, hs1, hs2⟩ := hSw; go_simp⟩) hSx ?_
          try simp only [Act.put]
          refine wpAnyH_take (i := 10) (v := .pointer (some ⟨bq, oq + 1, none⟩)) rfl (by kernel_rfl) (by kernel_rfl) (by kernel_rfl) (fun _ _ _ h => h) (Or.inl ⟨by rfl, fun w' hSw => by (try dsimp only at hSw); obtain ⟨hs0, hs1, hs2⟩ := hSw; go_simp⟩) hSx ?_
          try simp only [Act.put]
          refine wpAnyH_take (i := 11) (v := .int .i64 (e1 : Int)) rfl (by kernel_rfl) (by kernel_rfl) (by kernel_rfl) (fun _ _ _ h => h) (Or.inl ⟨by rfl, fun w' hSw => by (try dsimp only at hSw); obtain ⟨hs0, hs1, hs2⟩ := hSw; go_simp⟩) hSx ?_
          try simp only [Act.put]
          refine wpAnyH_take (i := 12) (v := .int .i64 (v : Int)) rfl (by kernel_rfl) (by kernel_rfl) (by kernel_rfl) (fun _ _ _ h => h) (Or.inl ⟨by rfl, fun w' hSw => by (try dsimp only at hSw); obtain ⟨hs0, hs1, hs2⟩ := hSw; go_simp⟩) hSx ?_
          try simp only [Act.put]
          refine wpAnyH_take (i := 13) (v := .int .i64 ((e1 : Int) + (v : Int))) rfl (by kernel_rfl) (by kernel_rfl) (by kernel_rfl) (fun _ _ _ h => h) (Or.inl ⟨by rfl, fun w' hSw => by (try dsimp only at hSw); obtain ⟨hs0, hs1, hs2⟩ := hSw; go_simp⟩) hSx ?_
          try simp only [Act.put]
          refine wpAnyH_ready (rs := [14]) (by kernel_rfl) (by simp) ?_
          refine AllReadyH.cons rfl (fun J hJ => ?_) AllReadyH.nil
          go_simp
          have hBa : Below (w.heap.size + 2) w0 (w6.drew.alloc (.cells #[.int .i64 (e2 : Int), .int .i64 ((e0 : Int) + (v : Int)), .int .i64 ((e1 : Int) + (v : Int))] 3)) := hB6.drew.trans ((balloc w6.drew (.cells #[.int .i64 (e2 : Int), .int .i64 ((e0 : Int) + (v : Int)), .int .i64 ((e1 : Int) + (v : Int))] 3)).mono hsz6)
          refine hJ.out _ _ (HRW.out _ hBa) (fun hSx => ?_)
          clear hJ J
          try simp only [Act.put, List.setIfInBounds_toArray, List.set_cons_zero, List.set_cons_succ]
          refine wpAnyH_ready (rs := [15]) (by kernel_rfl) (by simp) ?_
          refine AllReadyH.cons rfl (fun J hJ => ?_) AllReadyH.nil
          go_simp
          have hBb : Below (w.heap.size + 2) w0 ((w6.drew.alloc (.cells #[.int .i64 (e2 : Int), .int .i64 ((e0 : Int) + (v : Int)), .int .i64 ((e1 : Int) + (v : Int))] 3)).alloc (.cells #[.slice (some ⟨w6.heap.size, 0, none⟩) 3 3] 45)) := hBa.trans ((balloc (w6.drew.alloc (.cells #[.int .i64 (e2 : Int), .int .i64 ((e0 : Int) + (v : Int)), .int .i64 ((e1 : Int) + (v : Int))] 3)) (.cells #[.slice (some ⟨w6.heap.size, 0, none⟩) 3 3] 45)).mono (by rw [World.size_alloc]; exact Nat.le_succ_of_le hsz6))
          refine hJ.out _ _ (HRW.out _ hBb) (fun hSx => ?_)
          clear hJ J
          try simp only [Act.put, List.setIfInBounds_toArray, List.set_cons_zero, List.set_cons_succ]
          refine wpAnyH_ready (rs := [16]) (by kernel_rfl) (by simp) ?_
          refine AllReadyH.cons rfl (fun J hJ => ?_) AllReadyH.nil
          rw [if_pos (by rfl)]
          obtain ⟨vals7, h17, h27⟩ := HOM6.out
          have H17 : Hid (w6.drew.ownsRow (w.heap.size + 2) 45 1 (.slice (some ⟨g6, 0, none⟩) ln6 cap6) L6.length vals7) := own_keep h17 fun b _ _ => rfl
          have H27 : Hid (∀ (i : Nat) (u : Value) (l : List Nat), vals7[i]? = some u → L6[i]? = some l → ORow w6.drew (w.heap.size + 2) u l ∨ Sl w u (l.map Int.ofNat)) := fun i u l e1 e2 => (h27 i u l e1 e2).imp (fun h => own_keep h fun b _ _ => rfl) id
          have h37 := H17.out
          rw [HN6.out] at h37
          refine wp_append_lies _ _ _ 22 (by rfl) (w.heap.size + 2) 45 i45 (.slice none 0 0) 1 24 undR ji3 jz0 jz1 jz2 rfl (by decide) (.slice (some ⟨g6, 0, none⟩) ln6 cap6) ln6 vals7 (by rfl) ((h37.alloc _).alloc _) ⟨w6.heap.size + 1, 0, none⟩ 1 1 [.slice (some ⟨w6.heap.size, 0, none⟩) 3 3] (by rfl) rfl ?n7 (fun u hu => by simp at hu; subst hu; rfl) (by decide) (by unfold maxLen; omega) (by omega) (Nat.le_trans (by have := HZ0.out; omega : (w.heap.size + 2) ≤ w0.heap.size) hBb.size) _ rfl ?_
          case n7 =>
            have hnw := news_row (w6.drew.alloc (.cells #[.int .i64 (e2 : Int), .int .i64 ((e0 : Int) + (v : Int)), .int .i64 ((e1 : Int) + (v : Int))] 3)) (.slice (some ⟨w6.heap.size, 0, none⟩) 3 3)
            rw [World.size_alloc] at hnw
            exact hnw
          intro g7 cap7 w7 hown7 hgr7 _ _
          have hap := om_app3 (L := L6) (x := e2) (y := e0 + v) (z := e1 + v) H17.out H27.out HN6.out hsz6 hown7 hgr7 rfl (by omega) (by omega)
          have hB7 : Below (w.heap.size + 2) w0 w7 := hB6.drew.trans hap.2
          have hsz7 := HSW.out _ hB7
          have HOM7 : Hid (OM w w7 (w.heap.size + 2) (.slice (some ⟨g7, 0, none⟩) (ln6 + 1) cap7) (L6 ++ [[e2, e0 + v, e1 + v]])) := hap.1
          clear hap hown7 hgr7 h17 h27 h37 H17 H27 hBa hBb
          refine hJ.out _ _ (HRW.out _ hB7) (fun hSx => ?_)
          clear hJ J
          try simp only [Act.put, List.setIfInBounds_toArray]
          refine wpAnyH_take (i := 17) (v := .slice (some ⟨g7, 0, none⟩) (ln6 + 1) cap7) rfl (by kernel_rfl) (by kernel_rfl) (by kernel_rfl) (fun _ _ _ h => h) (Or.inl ⟨by rfl, fun w' hSw => by (try dsimp only at hSw); obtain ⟨hs0, hs1, hs2⟩ := hSw; go_simp⟩) hSx ?_
          try simp only [Act.put]
          refine wpAnyH_done (by kernel_rfl) ?_ _
          refine NoPanic.normal ?_
          clear hSx
          try simp only [List.getElem_toArray, List.getElem_cons_succ, List.getElem_cons_zero, List.setIfInBounds_toArray, List.set_cons_zero, List.set_cons_succ]
          have hOn := HOM7.out
          rw [← HNX.out] at hOn
          clear HOM HOM5 HOM6 HOM7
          go_wp2
          go_roundw
          case rel => exact ⟨i + 1, by go_num, by omega, hOn, hB7⟩
          case measure => simp [intOf]; omega
        · have hdi : decide ((i : Int) < (n : Int)) = false := by simp; omega
          have hin : n = i := by omega
          have hLM : LL = MD := by rw [← HLL.out, ← hin, HEND.out n rfl]; exact HMD.out
          subst hLM
          have HC : Hid (Calls Try.prog 28 #[.slice oa LL.length oc] wr fun e w' => ∃ x Z, e = .returned x ∧ Ordd LL Z ∧ OR w' wr.heap.size x Z ∧ Below wr.heap.size wr w') := HI.out wr _ (hO.rw (HBW.out wr hB)) (by omega)
          have HR : Hid (wr.heap[w.heap.size + 1]? = _) := hr
          have HBB : Hid (Below w.heap.size w wr) := HBW.out wr hB
          generalize LL.length = mdl at *
          clear hO hr hB
          go_wp2_with (go_at_call 28; refine HC.out.mono ?_; rintro e w2 ⟨x, Z, rfl, hS, hO, hb⟩; clear HC; have hlt2 : w.heap.size + 1 < wr.heap.size := (Array.getElem?_eq_some_iff.1 HR.out).1; have hr : w2.heap[w.heap.size + 1]? = _ := (hb.block _ hlt2).trans HR.out; obtain ⟨xa, xc, rfl⟩ := hO.cap; have H7 : Hid (_ ∧ _ ∧ _) := res_put (p := 2 * (v : Int) + 1) hr (Below.next HBB.out hb) (Nat.le_succ _) (by omega) hO; have z0 := frozen_of_row _ _ 0 _ _ hr; have z1 := frozen_of_row _ _ 1 _ _ hr; have y0 := cell_of_row _ _ 0 _ _ _ hr; have y1 := cell_of_row _ _ 1 _ _ _ hr; have HSZ : Hid (Ordd LL Z) := hS; generalize Z.length = zl at *; clear hr hb hO HR hlt2 hS k0 k1)
          exact post_d2 2 3 rfl rfl H7.out.1 rfl rfl ⟨_, Z, rfl, HSZ.out, H7.out.2.1, H7.out.2.2⟩

end Go.Proofs.Ytdeofjmgjhfkcaa

namespace Go.Proofs.Ytdeofjmgjhfkcaa
open Go.RowKit Go.Maps

theorem three_box (v m : Nat) (ua ub : Value) (w : World) : ∀ W, Below (((w.alloc (.cells #[.int .i64 (v : Int), ua] 24)).alloc (.cells #[.int .i64 (m : Int), ub] 24)).alloc (.cells #[.int .i64 0, .slice none 0 0] 24)).heap.size (((w.alloc (.cells #[.int .i64 (v : Int), ua] 24)).alloc (.cells #[.int .i64 (m : Int), ub] 24)).alloc (.cells #[.int .i64 0, .slice none 0 0] 24)) W → ((W.cell? ⟨w.heap.size, 0, none⟩ = some (.int .i64 (v : Int)) ∧ W.cell? ⟨w.heap.size, 1, none⟩ = some (ua)) ∧ (W.cell? ⟨w.heap.size + 1, 0, none⟩ = some (.int .i64 (m : Int)) ∧ W.cell? ⟨w.heap.size + 1, 1, none⟩ = some (ub)) ∧ W.heap[w.heap.size + 2]? = some (.cells #[.int .i64 0, .slice none 0 0] 24 (0, 0))) := fun W h => by
  have e2 := des_box (m : Int) ub (w.alloc (.cells #[.int .i64 (v : Int), ua] 24)) W (Below.next (balloc _ _) h)
  rw [World.size_alloc] at e2
  refine ⟨des_box (v : Int) ua w W (Below.next (balloc _ _) (Below.next (balloc _ _) h)), e2, (h.block _ (by simp)).trans ?_⟩
  have := heap_alloc_new ((w.alloc (.cells #[.int .i64 (v : Int), ua] 24)).alloc (.cells #[.int .i64 (m : Int), ub] 24)) (.cells #[.int .i64 0, .slice none 0 0] 24)
  rw [World.size_alloc, World.size_alloc] at this
  exact this
theorem own3 {w : World} {base : Nat} {x : Value} {a b c : Nat} (h : w.ownsRow base 3 1 x 3 (Pr.vl [a, b, c])) : ∃ g cap, x = .slice (some ⟨g, 0, none⟩) 3 cap ∧ base ≤ g ∧ g < w.heap.size ∧ ∀ W : World, W.heap[g]? = w.heap[g]? → W.cell? ⟨g, 0, none⟩ = some (.int .i64 (a : Int)) ∧ W.cell? ⟨g, 1, none⟩ = some (.int .i64 (b : Int)) ∧ W.cell? ⟨g, 2, none⟩ = some (.int .i64 (c : Int)) := by
  obtain ⟨_, ⟨_, h0⟩ | ⟨g, cap, cur, rfl, hb, hg, h2, h3, h4, ht⟩⟩ := h
  · omega
  · refine ⟨g, cap, rfl, hb, (Array.getElem?_eq_some_iff.1 hg).1, fun W hW => ?_⟩
    have key : ∀ i, i < 3 → W.cell? ⟨g, i, none⟩ = (Pr.vl [a, b, c])[i]? := fun i hi => by
      rw [cell_of_row W g i cur 3 (0, 0) (hW.trans hg), ← ht, List.getElem?_take, if_pos (by omega)]
      simp
    exact ⟨key 0 (by omega), key 1 (by omega), key 2 (by omega)⟩
theorem OR.mono {w : World} {base base' : Nat} {v : Value} {ls : List (List Nat)} (h : OR w base v ls) (hb : base' ≤ base) : OR w base' v ls := by
  have key : ∀ {e : TypeId} {u : Value} {n : Nat} {xs : List Value}, w.ownsRow base e 1 u n xs → w.ownsRow base' e 1 u n xs := by
    rintro e u n xs ⟨h0, hn | ⟨g, cap, cur, e1, hg, k1⟩⟩
    · exact ⟨h0, .inl hn⟩
    · exact ⟨h0, .inr ⟨g, cap, cur, e1, Nat.le_trans hb hg, k1⟩⟩
  obtain ⟨vals, h1, h2⟩ := h
  exact ⟨vals, key h1, fun i u l e1 e2 => key (h2 i u l e1 e2)⟩
theorem res_putO {w w1 : World} {t base s : Nat} {p : Int} {y : Value} {Z : List (List Nat)} (hr : w1.heap[t]? = some (.cells #[.int .i64 0, .slice none 0 0] 24 (0, 0))) (hb : Below s w w1) (hs : s ≤ t) (ht : t < base) (hO : OR w1 base y Z) :
    ((w1.setCell ⟨t, 0, none⟩ (.int .i64 p)).setCell ⟨t, 1, none⟩ y).heap[t]? = some (.cells #[.int .i64 p, y] 24 (0, 0)) ∧ OR ((w1.setCell ⟨t, 0, none⟩ (.int .i64 p)).setCell ⟨t, 1, none⟩ y) s y Z ∧ Below s w ((w1.setCell ⟨t, 0, none⟩ (.int .i64 p)).setCell ⟨t, 1, none⟩ y) := by
  have h6 := heap_setCell_same w1 t 0 _ 24 (.int .i64 p) hr
  have h7 := heap_setCell_same _ t 1 _ 24 y h6
  refine ⟨by simpa using h7, (hO.keep fun b hb' _ => (heap_setCell_other _ ⟨t, 1, none⟩ b _ (by show b ≠ t; omega)).trans (heap_setCell_other w1 ⟨t, 0, none⟩ b _ (by show b ≠ t; omega))).mono (by omega), ?_⟩
  exact (hb.setCell (p := ⟨t, 0, none⟩) hs _).setCell (p := ⟨t, 1, none⟩) hs _
set_option maxRecDepth 100000 in
set_option maxHeartbeats 4000000 in
theorem ProductOf_full (v m vm : Nat) (hv : v ≤ 40) (hm : m ≤ 40) (hvm : v * m = vm) (h33 : 33 < vm) (n k : Nat) (u t : Value) (w : World) (hu : ∃ a c, u = .slice a n c) (ht : ∃ a c, t = .slice a k c) :
    Calls Try.prog 17 #[.agg #[.int .i64 (v : Int), u], .agg #[.int .i64 (m : Int), t]] w fun e w' => e = .returned (.tuple #[.agg #[.int .i64 0, .slice none 0 0], .int .i64 3]) ∧ Below w.heap.size w w' := by
  have HB0 : Hid (Below w.heap.size w (((w.alloc (.cells #[.int .i64 (v : Int), u] 24)).alloc (.cells #[.int .i64 (m : Int), t] 24)).alloc (.cells #[.int .i64 0, .slice none 0 0] 24))) := Below.next (Below.next (balloc _ _) (balloc _ _)) (balloc _ _)
  obtain ⟨⟨x0, x1⟩, ⟨x2, x3⟩, hr⟩ := three_box v m u t w _ (Below.refl _ _)
  obtain ⟨ua, uc, rfl⟩ := hu
  obtain ⟨ta, tc, rfl⟩ := ht
  have z0 := frozen_of_row _ _ 0 _ _ hr
  have z1 := frozen_of_row _ _ 1 _ _ hr
  have y0 := cell_of_row _ _ 0 _ _ _ hr
  have y1 := cell_of_row _ _ 1 _ _ _ hr
  have H7 : Hid (_ ∧ _) := res_none hr HB0.out (by omega)
  have H8 : Hid (_ ∧ Below w.heap.size w _) := ⟨hr, HB0.out⟩
  have hp : vm ≤ 1600 := by rw [← hvm]; exact Nat.le_trans (Nat.mul_le_mul hv hm) (by omega)
  have hmu : (v : Int) * (m : Int) = (vm : Int) := by rw [← hvm]; simp
  have g1 : decide ((vm : Int) > 33) = true := by simp; omega
  have g1' : decide (33 < (vm : Int)) = true := by simp; omega
  have g2 : 33 < (vm : Int) := by omega
  clear hr hvm
  go_enter Try.func17, Try.ntmps17
  go_wp2
  first
    | exact post_d2 4 5 rfl rfl H8.out.1 rfl rfl ⟨rfl, H8.out.2⟩
    | exact post_d2 4 5 rfl rfl H7.out.1 rfl rfl ⟨rfl, H7.out.2⟩
set_option maxRecDepth 100000 in
set_option maxHeartbeats 32000000 in
theorem ProductOf_main (v m : Nat) (A C : List (List Nat)) (ua ub : Value) (w : World) (hv : v ≤ 33) (hm : m ≤ 33) (hvm : v * m ≤ 33) (hA2 : A.length ≤ 200) (hC2 : C.length ≤ 200) (hT1 : v * C.length ≤ 400) (hT2 : A.length * (m + 6 * C.length) ≤ 400) (hA3 : ∀ b ∈ A, b.length = 3 ∧ ∀ x ∈ b, x ≤ 40) (hC3 : ∀ b ∈ C, b.length = 3 ∧ ∀ x ∈ b, x ≤ 40) (hua : Rw w ua (toZ A)) (hub : Rw w ub (toZ C)) :
    Calls Try.prog 17 #[.agg #[.int .i64 (v : Int), ua], .agg #[.int .i64 (m : Int), ub]] w fun e w' => ∃ x Z, e = .returned (.tuple #[.agg #[.int .i64 ((v * m : Nat) : Int), x], .int .i64 0]) ∧ Ordd (prQ v m A C) Z ∧ OR w' w.heap.size x Z ∧ Below w.heap.size w w' := by
  obtain ⟨aa, ac, rfl, hDA⟩ := drow_of hua
  obtain ⟨ba, bc, rfl, hDC⟩ := drow_of hub
  have HC : Hid (∀ W, Below (((w.alloc (.cells #[.int .i64 (v : Int), .slice aa A.length ac] 24)).alloc (.cells #[.int .i64 (m : Int), .slice ba C.length bc] 24)).alloc (.cells #[.int .i64 0, .slice none 0 0] 24)).heap.size (((w.alloc (.cells #[.int .i64 (v : Int), .slice aa A.length ac] 24)).alloc (.cells #[.int .i64 (m : Int), .slice ba C.length bc] 24)).alloc (.cells #[.int .i64 0, .slice none 0 0] 24)) W → ((W.cell? ⟨w.heap.size, 0, none⟩ = some (.int .i64 (v : Int)) ∧ W.cell? ⟨w.heap.size, 1, none⟩ = some (.slice aa A.length ac)) ∧ (W.cell? ⟨w.heap.size + 1, 0, none⟩ = some (.int .i64 (m : Int)) ∧ W.cell? ⟨w.heap.size + 1, 1, none⟩ = some (.slice ba C.length bc)) ∧ W.heap[w.heap.size + 2]? = some (.cells #[.int .i64 0, .slice none 0 0] 24 (0, 0)))) := three_box v m _ _ w
  have HB0 : Hid (Below w.heap.size w (((w.alloc (.cells #[.int .i64 (v : Int), .slice aa A.length ac] 24)).alloc (.cells #[.int .i64 (m : Int), .slice ba C.length bc] 24)).alloc (.cells #[.int .i64 0, .slice none 0 0] 24))) := Below.next (Below.next (balloc _ _) (balloc _ _)) (balloc _ _)
  have HZ0 : Hid ((((w.alloc (.cells #[.int .i64 (v : Int), .slice aa A.length ac] 24)).alloc (.cells #[.int .i64 (m : Int), .slice ba C.length bc] 24)).alloc (.cells #[.int .i64 0, .slice none 0 0] 24)).heap.size = w.heap.size + 3) := by show _ = _; simp
  have HIO : Hid (∀ (MD : List (List Nat)), MD = prQ v m A C → ∀ (W : World) (u : Value), Rw W u (toZ MD) → MD.length ≤ 6000 → Calls Try.prog 28 #[u] W fun e w' => ∃ x Z, e = .returned x ∧ Ordd MD Z ∧ OR w' W.heap.size x Z ∧ Below W.heap.size W w') := fun MD e W u h h' => InOrder_any MD u W h (by rw [e]; exact prQ_three v m A C) h'
  have HAT : Hid (∀ i, i < A.length → _) := fun i hi => rows3 hA3 hDA i hi
  have HCT : Hid (∀ i, i < C.length → _) := fun i hi => rows3 hC3 hDC i hi
  have H1S : Hid (∀ x, q1 m C (x + 1) = q1 m C x ++ q1i m x (C.take C.length)) := fun x => by rw [List.take_length]; exact q1_succ m C x
  have H1L : Hid (∀ x, x ≤ v → (q1 m C x).length ≤ 400) := fun x hx => by rw [q1_len]; exact Nat.le_trans (Nat.mul_le_mul_right _ hx) hT1
  have HIS : Hid (∀ (x i : Nat) (c : List Nat), C[i]? = some c → q1i m x (C.take (i + 1)) = q1i m x (C.take i) ++ [[x * m + c.getD 0 0, x * m + c.getD 1 0, x * m + c.getD 2 0]]) := fun x i c h => q1i_succ h
  have HIL : Hid (∀ x i, (q1i m x (C.take i)).length ≤ 200) := fun x i => by rw [q1i_len, List.length_take]; omega
  have HYS : Hid (∀ (a : List Nat) (y : Nat), q2y m a (y + 1) = q2y m a y ++ [[a.getD 0 0 * m + y, a.getD 1 0 * m + y, a.getD 2 0 * m + y]]) := q2y_succ m
  have HYL : Hid (∀ (a : List Nat) (y : Nat), (q2y m a y).length = y) := q2y_len m
  have H6S : Hid (∀ (a c : List Nat) (k : Nat), q6 m a c (k + 1) = q6 m a c k ++ [[a.getD 0 0 * m + c.getD (p3 k 0) 0, a.getD 1 0 * m + c.getD (p3 k 1) 0, a.getD 2 0 * m + c.getD (p3 k 2) 0]]) := q6_succ m
  have H6L : Hid (∀ (a c : List Nat) (k : Nat), (q6 m a c k).length = k) := q6_len m
  have HCS : Hid (∀ (a : List Nat) (i : Nat) (c : List Nat), C[i]? = some c → q2c m a (C.take (i + 1)) = q2c m a (C.take i) ++ q6 m a c 6) := fun a i c h => q2c_succ h
  have HCL : Hid (∀ (a : List Nat) (i : Nat), (q2c m a (C.take i)).length ≤ 1200) := fun a i => by rw [q2c_len, List.length_take]; omega
  have H2S : Hid (∀ (i : Nat) (a : List Nat), A[i]? = some a → q2 m C (A.take (i + 1)) = (q2 m C (A.take i) ++ q2y m a m) ++ q2c m a (C.take C.length)) := fun i a h => by rw [List.take_length]; exact q2_succ h
  have H2L : Hid (∀ i, (q2 m C (A.take i)).length ≤ 400) := fun i => by rw [q2_len, List.length_take]; exact Nat.le_trans (Nat.mul_le_mul_right _ (Nat.min_le_right _ _)) hT2
  have HXM : Hid (∀ x, x ≤ 99 → x * m ≤ 3300) := fun x hx => Nat.le_trans (Nat.mul_le_mul hx hm) (by omega)
  have HPR : Hid (∀ (k : Nat) (W : World), k < 6 → Calls Try.prog 36 #[.int .i64 3, .int .i64 (k : Int)] W fun e w' => ∃ x, e = .returned (.tuple #[x, .int .i64 0]) ∧ w'.ownsRow (W.heap.size + 1) 3 1 x 3 (Pr.vl [p3 k 0, p3 k 1, p3 k 2]) ∧ Below W.heap.size W w') := fun k W hk => by
    have := Pr.PermOfRank_ok 3 k W (by omega) hk
    rw [p3_row k hk] at this
    exact this
  have HPL : Hid (∀ k, k < 6 → p3 k 0 < 3 ∧ p3 k 1 < 3 ∧ p3 k 2 < 3) := fun k hk => ⟨p3_lt k hk 0 (by omega), p3_lt k hk 1 (by omega), p3_lt k hk 2 (by omega)⟩
  have HEND : Hid (q1 m C v ++ q2 m C (A.take A.length) = prQ v m A C) := by show _ = _; rw [List.take_length]; rfl
  have HE1 : Hid (q1 m C 0 = []) := rfl
  have HE2 : Hid (∀ x, q1i m x (C.take 0) = []) := fun _ => rfl
  have HE3 : Hid (q2 m C (A.take 0) = []) := rfl
  have HE4 : Hid (∀ a, q2y m a 0 = []) := fun _ => rfl
  have HE5 : Hid (∀ a, q2c m a (C.take 0) = []) := fun _ => rfl
  have HE6 : Hid (∀ a c, q6 m a c 0 = []) := fun _ _ => rfl
  obtain ⟨MD, HMD⟩ : ∃ MD, Hid (prQ v m A C = MD) := ⟨_, rfl⟩
  have HIO2 := HIO.out MD HMD.out.symm
  have HI : Hid (∀ (W : World) (u : Value), Rw W u (toZ MD) → MD.length ≤ 6000 → Calls Try.prog 28 #[u] W fun e w' => ∃ x Z, e = .returned x ∧ Ordd MD Z ∧ OR w' W.heap.size x Z ∧ Below W.heap.size W w') := HIO2
  rw [HMD.out] at HEND ⊢
  have hvm0 : (v : Int) * (m : Int) = ((v * m : Nat) : Int) := by simp
  generalize hvq : v * m = vm at *
  generalize hAn : A.length = na at *
  generalize hCn : C.length = nc at *
  obtain ⟨w0, Hw0⟩ : ∃ w0, Hid (w0 = ((w.alloc (.cells #[.int .i64 (v : Int), .slice aa na ac] 24)).alloc (.cells #[.int .i64 (m : Int), .slice ba nc bc] 24)).alloc (.cells #[.int .i64 0, .slice none 0 0] 24)) := ⟨_, rfl⟩
  obtain ⟨⟨x0, x1⟩, ⟨x2, x3⟩, xr⟩ := HC.out _ (Below.refl _ _)
  rw [← Hw0.out] at HC HB0 HZ0
  obtain ⟨i45, ji3, jz0, jz1, jz2⟩ := info36
  have HBW : Hid (∀ W, Below (w.heap.size + 3) w0 W → Below w.heap.size w W) := fun W h => HB0.out.trans (h.mono (by omega))
  have HCW : Hid (∀ W, Below (w.heap.size + 3) w0 W → ((W.cell? ⟨w.heap.size, 0, none⟩ = some (.int .i64 (v : Int)) ∧ W.cell? ⟨w.heap.size, 1, none⟩ = some (.slice aa na ac)) ∧ (W.cell? ⟨w.heap.size + 1, 0, none⟩ = some (.int .i64 (m : Int)) ∧ W.cell? ⟨w.heap.size + 1, 1, none⟩ = some (.slice ba nc bc)) ∧ W.heap[w.heap.size + 2]? = some (.cells #[.int .i64 0, .slice none 0 0] 24 (0, 0)))) := fun W h => HC.out W (by rw [HZ0.out]; exact h)
  have HSW : Hid (∀ W, Below (w.heap.size + 3) w0 W → (w.heap.size + 3) ≤ W.heap.size) := fun W h => by have := h.size; have := HZ0.out; omega
  have HO0 : Hid (OM w w0 (w.heap.size + 3) (.slice none 0 0) (q1 m C 0)) := by rw [HE1.out]; exact ⟨[], World.ownsRow_nil _ _ _ _, fun i u l h => by simp at h⟩
  have HBB : Hid (Below (w.heap.size + 3) w0 w0) := Below.refl _ _
  have g1 : decide ((vm : Int) > 33) = false := by simp; omega
  have g1' : decide (33 < (vm : Int)) = false := by simp; omega
  have g2 : ¬ 33 < (vm : Int) := by omega
  clear hDA hDC hA3 hC3 hAn hCn hua hub HC HIO HIO2 xr hT1 hT2 hvq
  go_enter Try.func17, Try.ntmps17
  go_wp2
  rw [← Hw0.out]
  clear x0 x1 x2 x3
  go_loopw [8, 9] (fun lv xv wr => ∃ (x : Nat), xv = .int .i64 (x : Int) ∧ x ≤ v ∧ OM w wr (w.heap.size + 3) lv (q1 m C x) ∧ Below (w.heap.size + 3) w0 wr) (fun lv xv _ => (v - intOf xv).toNat)
  case atStart => exact ⟨0, rfl, by omega, HO0.out, HBB.out⟩
  case round =>
    clear HO0 HBB
    obtain ⟨x, rfl, hx, hO, hB⟩ := hrel
    obtain ⟨oa, oc, rfl⟩ := hO.form
    obtain ⟨Lx, HLx⟩ : ∃ Lx, Hid (q1 m C x = Lx) := ⟨_, rfl⟩
    have HLXN : Hid (Lx.length ≤ 400) := by show _ ≤ _; rw [← HLx.out]; exact H1L.out x hx
    rw [HLx.out] at hO ⊢
    by_cases hlt : x < v
    · have hdi : decide ((x : Int) < (v : Int)) = true := by simp; omega
      have hii : (x : Int) < (v : Int) := by omega
      have hs1 := H1S.out x
      rw [HLx.out] at hs1
      have HXX : Hid (q1 m C (x + 1) = Lx ++ q1i m x (C.take nc)) := hs1
      have HO1 : Hid (OM w wr (w.heap.size + 3) (.slice oa Lx.length oc) (Lx ++ q1i m x (C.take 0))) := by rw [HE2.out, List.append_nil]; exact hO
      have HB1 : Hid (Below (w.heap.size + 3) w0 wr) := hB
      have hxm3 := HXM.out x (by omega)
      have hxm : (x : Int) * (m : Int) = ((x * m : Nat) : Int) := by simp
      have HIX : Hid (∀ (i : Nat) (c : List Nat), C[i]? = some c → q1i m x (C.take (i + 1)) = q1i m x (C.take i) ++ [[x * m + c.getD 0 0, x * m + c.getD 1 0, x * m + c.getD 2 0]]) := HIS.out x
      generalize x * m = xm at *
      generalize Lx.length = lxn at HO1 ⊢
      clear hO hB hs1
      go_wp2
      go_loopw [8, 10] (fun lv iv wr => ∃ (i : Nat), iv = .int .i64 (i : Int) ∧ i ≤ nc ∧ OM w wr (w.heap.size + 3) lv (Lx ++ q1i m x (C.take i)) ∧ Below (w.heap.size + 3) w0 wr) (fun lv iv _ => (nc - intOf iv).toNat)
      case atStart => exact ⟨0, rfl, by omega, HO1.out, HB1.out⟩
      case round =>
        clear HO1 HB1
        obtain ⟨i, rfl, hi, hO, hB⟩ := hrel
        obtain ⟨oa, oc, rfl⟩ := hO.form
        have hsz := HSW.out _ hB
        obtain ⟨LL, HLL⟩ : ∃ LL, Hid (Lx ++ q1i m x (C.take i) = LL) := ⟨_, rfl⟩
        have hlen : LL.length ≤ 700 := by rw [← HLL.out, List.length_append]; have := HIL.out x i; have := HLXN.out; omega
        rw [HLL.out] at hO ⊢
        obtain ⟨ln, HLN⟩ : ∃ ln, Hid (LL.length = ln) := ⟨_, rfl⟩
        obtain ⟨⟨k0, k1⟩, ⟨k2, k3⟩, _⟩ := HCW.out _ hB
        by_cases hli : i < nc
        · have hdj : decide ((i : Int) < (nc : Int)) = true := by simp; omega
          have hji : (i : Int) < (nc : Int) := by omega
          have hni : ¬ (nc : Int) ≤ (i : Int) := by omega
          obtain ⟨c, bb, off, rq, ro, rc, hci, hc99, rfl, hrow⟩ := HCT.out i hli
          obtain ⟨r0, _⟩ := hrow wr (HBW.out wr hB)
          have HRW : Hid (∀ W, Below (w.heap.size + 3) w0 W → W.cell? ⟨rq, ro, none⟩ = some (.int .i64 ((c.getD 0 0 : Nat) : Int)) ∧ W.cell? ⟨rq, ro + 1, none⟩ = some (.int .i64 ((c.getD 1 0 : Nat) : Int)) ∧ W.cell? ⟨rq, ro + 2, none⟩ = some (.int .i64 ((c.getD 2 0 : Nat) : Int))) := fun W h => ⟨(hrow W (HBW.out W h)).2 0 (by omega), (hrow W (HBW.out W h)).2 1 (by omega), (hrow W (HBW.out W h)).2 2 (by omega)⟩
          have his := HIX.out i c hci
          have HUS : Hid (Lx ++ q1i m x (C.take (i + 1)) = LL ++ [[xm + c.getD 0 0, xm + c.getD 1 0, xm + c.getD 2 0]]) := by show _ = _; rw [his, ← List.append_assoc, HLL.out]
          have b0 := hc99 0
          have b1 := hc99 1
          have b2 := hc99 2
          have HOM : Hid (OM w wr (w.heap.size + 3) (.slice oa LL.length oc) LL) := hO
          rw [HLN.out] at hlen HOM ⊢
          generalize c.getD 0 0 = e0 at *
          generalize c.getD 1 0 = e1 at *
          generalize c.getD 2 0 = e2 at *
          clear his hrow hci hc99 hO HLL
          obtain ⟨z0, hz0⟩ : ∃ z, z = xm + e0 := ⟨_, rfl⟩
          obtain ⟨z1, hz1⟩ : ∃ z, z = xm + e1 := ⟨_, rfl⟩
          obtain ⟨z2, hz2⟩ : ∃ z, z = xm + e2 := ⟨_, rfl⟩
          rw [← hz0, ← hz1, ← hz2] at HUS
          have ha0 : (xm : Int) + (e0 : Int) = (z0 : Int) := by omega
          have hw0 : IntKind.i64.wrap (z0 : Int) = (z0 : Int) := by rw [IntKind.wrap_i64]; omega
          have ha1 : (xm : Int) + (e1 : Int) = (z1 : Int) := by omega
          have hw1 : IntKind.i64.wrap (z1 : Int) = (z1 : Int) := by rw [IntKind.wrap_i64]; omega
          have ha2 : (xm : Int) + (e2 : Int) = (z2 : Int) := by omega
          have hw2 : IntKind.i64.wrap (z2 : Int) = (z2 : Int) := by rw [IntKind.wrap_i64]; omega
          have hvxm : IntKind.i64.wrap (xm : Int) = (xm : Int) := by rw [IntKind.wrap_i64]; omega
          clear hz0 hz1 hz2
          go_wp2
          clear r0 k0 k1 k2 k3
          refine wp_region_noPanic ?_
          refine wp_region_held_drew (S := fun w' => w'.cell? ⟨rq, ro, none⟩ = some (.int .i64 (e0 : Int)) ∧ w'.cell? ⟨rq, ro + 1, none⟩ = some (.int .i64 (e1 : Int)) ∧ w'.cell? ⟨rq, ro + 2, none⟩ = some (.int .i64 (e2 : Int))) (by kernel_rfl) (HRW.out _ hB.drew) (fun hSx => ?_)
          refine wpAnyH_take (i := 0) (v := .slice oa ln oc) rfl (by kernel_rfl) (by kernel_rfl) (by kernel_rfl) (fun _ _ _ h => h) (Or.inl ⟨by rfl, fun w' hSw => by (try dsimp only at hSw); obtain ⟨hs0, hs1, hs2⟩ := hSw; go_simp⟩) hSx ?_
          try simp only [Act.put, List.setIfInBounds_toArray]
          refine wpAnyH_take (i := 1) (v := .int .i64 (x : Int)) rfl (by kernel_rfl) (by kernel_rfl) (by kernel_rfl) (fun _ _ _ h => h) (Or.inl ⟨by rfl, fun w' hSw => by (try dsimp only at hSw); obtain ⟨hs0, hs1, hs2⟩ := hSw; go_simp⟩) hSx ?_
          try simp only [Act.put]
          refine wpAnyH_take (i := 2) (v := .int .i64 (m : Int)) rfl (by kernel_rfl) (by kernel_rfl) (by kernel_rfl) (fun _ _ _ h => h) (Or.inl ⟨by rfl, fun w' hSw => by (try dsimp only at hSw); obtain ⟨hs0, hs1, hs2⟩ := hSw; go_simp⟩) hSx ?_
          try simp only [Act.put]
          refine wpAnyH_take (i := 3) (v := .int .i64 (xm : Int)) rfl (by kernel_rfl) (by kernel_rfl) (by kernel_rfl) (fun _ _ _ h => h) (Or.inl ⟨by rfl, fun w' hSw => by (try dsimp only at hSw); obtain ⟨hs0, hs1, hs2⟩ := hSw; go_simp⟩) hSx ?_
          try simp only [Act.put]
          refine wpAnyH_take (i := 4) (v := .slice (some ⟨rq, ro, none⟩) 3 rc) rfl (by kernel_rfl) (by kernel_rfl) (by kernel_rfl) (fun _ _ _ h => h) (Or.inl ⟨by rfl, fun w' hSw => by (try dsimp only at hSw); obtain ⟨hs0, hs1, hs2⟩ := hSw; go_simp⟩) hSx ?_
          try simp only [Act.put]
          refine wpAnyH_take (i := 5) (v := .pointer (some ⟨rq, ro, none⟩)) rfl (by kernel_rfl) (by kernel_rfl) (by kernel_rfl) (fun _ _ _ h => h) (Or.inl ⟨by rfl, fun w' hSw => by (try dsimp only at hSw); obtain ⟨hs0, hs1, hs2⟩ := hSw; go_simp⟩) hSx ?_
          try simp only [Act.put]
          refine wpAnyH_take (i := 6) (v := .int .i64 (e0 : Int)) rfl (by kernel_rfl) (by kernel_rfl) (by kernel_rfl) (fun _ _ _ h => h) (Or.inl ⟨by rfl, fun w' hSw => by (try dsimp only at hSw); obtain ⟨hs0, hs1, hs2⟩ := hSw; go_simp⟩) hSx ?_
          try simp only [Act.put]
          refine wpAnyH_take (i := 7) (v := .int .i64 (z0 : Int)) rfl (by kernel_rfl) (by kernel_rfl) (by kernel_rfl) (fun _ _ _ h => h) (Or.inl ⟨by rfl, fun w' hSw => by (try dsimp only at hSw); obtain ⟨hs0, hs1, hs2⟩ := hSw; go_simp⟩) hSx ?_
          try simp only [Act.put]
          refine wpAnyH_take (i := 8) (v := .int .i64 (x : Int)) rfl (by kernel_rfl) (by kernel_rfl) (by kernel_rfl) (fun _ _ _ h => h) (Or.inl ⟨by rfl, fun w' hSw => by (try dsimp only at hSw); obtain ⟨hs0, hs1, hs2⟩ := hSw; go_simp⟩) hSx ?_
          try simp only [Act.put]
          refine wpAnyH_take (i := 9) (v := .int .i64 (m : Int)) rfl (by kernel_rfl) (by kernel_rfl) (by kernel_rfl) (fun _ _ _ h => h) (Or.inl ⟨by rfl, fun w' hSw => by (try dsimp only at hSw); obtain ⟨hs0, hs1, hs2⟩ := hSw; go_simp⟩) hSx ?_
          try simp only [Act.put]
          refine wpAnyH_take (i := 10) (v := .int .i64 (xm : Int)) rfl (by kernel_rfl) (by kernel_rfl) (by kernel_rfl) (fun _ _ _ h => h) (Or.inl ⟨by rfl, fun w' hSw => by (try dsimp only at hSw); obtain ⟨hs0, hs1, hs2⟩ := hSw; go_simp⟩) hSx ?_
          try simp only [Act.put]
          refine wpAnyH_take (i := 11) (v := .slice (some ⟨rq, ro, none⟩) 3 rc) rfl (by kernel_rfl) (by kernel_rfl) (by kernel_rfl) (fun _ _ _ h => h) (Or.inl ⟨by rfl, fun w' hSw => by (try dsimp only at hSw); obtain ⟨hs0, hs1, hs2⟩ := hSw; go_simp⟩) hSx ?_
          try simp only [Act.put]
          refine wpAnyH_take (i := 12) (v := .pointer (some ⟨rq, ro + 1, none⟩)) rfl (by kernel_rfl) (by kernel_rfl) (by kernel_rfl) (fun _ _ _ h => h) (Or.inl ⟨by rfl, fun w' hSw => by (try dsimp only at hSw); obtain ⟨hs0, hs1, hs2⟩ := hSw; go_simp⟩) hSx ?_
          try simp only [Act.put]
          refine wpAnyH_take (i := 13) (v := .int .i64 (e1 : Int)) rfl (by kernel_rfl) (by kernel_rfl) (by kernel_rfl) (fun _ _ _ h => h) (Or.inl ⟨by rfl, fun w' hSw => by (try dsimp only at hSw); obtain ⟨hs0, hs1, hs2⟩ := hSw; go_simp⟩) hSx ?_
          try simp only [Act.put]
          refine wpAnyH_take (i := 14) (v := .int .i64 (z1 : Int)) rfl (by kernel_rfl) (by kernel_rfl) (by kernel_rfl) (fun _ _ _ h => h) (Or.inl ⟨by rfl, fun w' hSw => by (try dsimp only at hSw); obtain ⟨hs0, hs1, hs2⟩ := hSw; go_simp⟩) hSx ?_
          try simp only [Act.put]
          refine wpAnyH_take (i := 15) (v := .int .i64 (x : Int)) rfl (by kernel_rfl) (by kernel_rfl) (by kernel_rfl) (fun _ _ _ h => h) (Or.inl ⟨by rfl, fun w' hSw => by (try dsimp only at hSw); obtain ⟨hs0, hs1, hs2⟩ := hSw; go_simp⟩) hSx ?_
          try simp only [Act.put]
          refine wpAnyH_take (i := 16) (v := .int .i64 (m : Int)) rfl (by kernel_rfl) (by kernel_rfl) (by kernel_rfl) (fun _ _ _ h => h) (Or.inl ⟨by rfl, fun w' hSw => by (try dsimp only at hSw); obtain ⟨hs0, hs1, hs2⟩ := hSw; go_simp⟩) hSx ?_
          try simp only [Act.put]
          refine wpAnyH_take (i := 17) (v := .int .i64 (xm : Int)) rfl (by kernel_rfl) (by kernel_rfl) (by kernel_rfl) (fun _ _ _ h => h) (Or.inl ⟨by rfl, fun w' hSw => by (try dsimp only at hSw); obtain ⟨hs0, hs1, hs2⟩ := hSw; go_simp⟩) hSx ?_
          try simp only [Act.put]
          refine wpAnyH_take (i := 18) (v := .slice (some ⟨rq, ro, none⟩) 3 rc) rfl (by kernel_rfl) (by kernel_rfl) (by kernel_rfl) (fun _ _ _ h => h) (Or.inl ⟨by rfl, fun w' hSw => by (try dsimp only at hSw); obtain ⟨hs0, hs1, hs2⟩ := hSw; go_simp⟩) hSx ?_
          try simp only [Act.put]
          refine wpAnyH_take (i := 19) (v := .pointer (some ⟨rq, ro + 2, none⟩)) rfl (by kernel_rfl) (by kernel_rfl) (by kernel_rfl) (fun _ _ _ h => h) (Or.inl ⟨by rfl, fun w' hSw => by (try dsimp only at hSw); obtain ⟨hs0, hs1, hs2⟩ := hSw; go_simp⟩) hSx ?_
          try simp only [Act.put]
          refine wpAnyH_take (i := 20) (v := .int .i64 (e2 : Int)) rfl (by kernel_rfl) (by kernel_rfl) (by kernel_rfl) (fun _ _ _ h => h) (Or.inl ⟨by rfl, fun w' hSw => by (try dsimp only at hSw); obtain ⟨hs0, hs1, hs2⟩ := hSw; go_simp⟩) hSx ?_
          try simp only [Act.put]
          refine wpAnyH_take (i := 21) (v := .int .i64 (z2 : Int)) rfl (by kernel_rfl) (by kernel_rfl) (by kernel_rfl) (fun _ _ _ h => h) (Or.inl ⟨by rfl, fun w' hSw => by (try dsimp only at hSw); obtain ⟨hs0, hs1, hs2⟩ := hSw; go_simp⟩) hSx ?_
          try simp only [Act.put]
          refine wpAnyH_ready (rs := [22]) (by kernel_rfl) (by simp) ?_
          refine AllReadyH.cons rfl (fun J hJ => ?_) AllReadyH.nil
          go_simp
          have hBa : Below (w.heap.size + 3) w0 (wr.drew.alloc (.cells #[.int .i64 (z0 : Int), .int .i64 (z1 : Int), .int .i64 (z2 : Int)] 3)) := hB.drew.trans ((balloc wr.drew (.cells #[.int .i64 (z0 : Int), .int .i64 (z1 : Int), .int .i64 (z2 : Int)] 3)).mono hsz)
          refine hJ.out _ _ (HRW.out _ hBa) (fun hSx => ?_)
          clear hJ J
          try simp only [Act.put, List.setIfInBounds_toArray, List.set_cons_zero, List.set_cons_succ]
          refine wpAnyH_ready (rs := [23]) (by kernel_rfl) (by simp) ?_
          refine AllReadyH.cons rfl (fun J hJ => ?_) AllReadyH.nil
          go_simp
          have hBb : Below (w.heap.size + 3) w0 ((wr.drew.alloc (.cells #[.int .i64 (z0 : Int), .int .i64 (z1 : Int), .int .i64 (z2 : Int)] 3)).alloc (.cells #[.slice (some ⟨wr.heap.size, 0, none⟩) 3 3] 45)) := hBa.trans ((balloc (wr.drew.alloc (.cells #[.int .i64 (z0 : Int), .int .i64 (z1 : Int), .int .i64 (z2 : Int)] 3)) (.cells #[.slice (some ⟨wr.heap.size, 0, none⟩) 3 3] 45)).mono (by rw [World.size_alloc]; exact Nat.le_succ_of_le hsz))
          refine hJ.out _ _ (HRW.out _ hBb) (fun hSx => ?_)
          clear hJ J
          try simp only [Act.put, List.setIfInBounds_toArray, List.set_cons_zero, List.set_cons_succ]
          refine wpAnyH_ready (rs := [24]) (by kernel_rfl) (by simp) ?_
          refine AllReadyH.cons rfl (fun J hJ => ?_) AllReadyH.nil
          rw [if_pos (by rfl)]
          obtain ⟨vals5, h15, h25⟩ := HOM.out
          have H15 : Hid (wr.drew.ownsRow (w.heap.size + 3) 45 1 (.slice oa ln oc) LL.length vals5) := own_keep h15 fun b _ _ => rfl
          have H25 : Hid (∀ (i : Nat) (u : Value) (l : List Nat), vals5[i]? = some u → LL[i]? = some l → ORow wr.drew (w.heap.size + 3) u l ∨ Sl w u (l.map Int.ofNat)) := fun i u l e1 e2 => (h25 i u l e1 e2).imp (fun h => own_keep h fun b _ _ => rfl) id
          have h35 := H15.out
          rw [HLN.out] at h35
          refine wp_append_lies _ _ _ 22 (by rfl) (w.heap.size + 3) 45 i45 (.slice none 0 0) 1 24 undR ji3 jz0 jz1 jz2 rfl (by decide) (.slice oa ln oc) ln vals5 (by rfl) ((h35.alloc _).alloc _) ⟨wr.heap.size + 1, 0, none⟩ 1 1 [.slice (some ⟨wr.heap.size, 0, none⟩) 3 3] (by rfl) rfl ?n5 (fun u hu => by simp at hu; subst hu; rfl) (by decide) (by unfold maxLen; omega) (by omega) (Nat.le_trans (by have := HZ0.out; omega : (w.heap.size + 3) ≤ w0.heap.size) hBb.size) _ rfl ?_
          case n5 =>
            have hnw := news_row (wr.drew.alloc (.cells #[.int .i64 (z0 : Int), .int .i64 (z1 : Int), .int .i64 (z2 : Int)] 3)) (.slice (some ⟨wr.heap.size, 0, none⟩) 3 3)
            rw [World.size_alloc] at hnw
            exact hnw
          intro g5 cap5 w5 hown5 hgr5 _ _
          have hap := om_app3 (L := LL) (x := z0) (y := z1) (z := z2) H15.out H25.out HLN.out hsz hown5 hgr5 rfl rfl rfl
          have hB5 : Below (w.heap.size + 3) w0 w5 := hB.drew.trans hap.2
          rw [← HUS.out] at hap
          have hOn := hap.1
          clear hap hown5 hgr5 h15 h25 h35 H15 H25 hBa hBb
          refine hJ.out _ _ (HRW.out _ hB5) (fun hSx => ?_)
          clear hJ J
          try simp only [Act.put, List.setIfInBounds_toArray]
          refine wpAnyH_take (i := 25) (v := .slice (some ⟨g5, 0, none⟩) (ln + 1) cap5) rfl (by kernel_rfl) (by kernel_rfl) (by kernel_rfl) (fun _ _ _ h => h) (Or.inl ⟨by rfl, fun w' hSw => by (try dsimp only at hSw); obtain ⟨hs0, hs1, hs2⟩ := hSw; go_simp⟩) hSx ?_
          try simp only [Act.put]
          refine wpAnyH_done (by kernel_rfl) ?_ _
          refine NoPanic.normal ?_
          clear hSx
          clear HOM
          go_wp2
          go_roundw
          case rel => exact ⟨i + 1, by go_num, by omega, hOn, hB5⟩
          case measure => simp [intOf]; omega
        · have hdj : decide ((i : Int) < (nc : Int)) = false := by simp; omega
          have hin : nc = i := by omega
          rw [← HLL.out, ← hin, ← HXX.out] at hO
          have hll : LL.length = (q1 m C (x + 1)).length := by rw [← HLL.out, HXX.out, hin]
          rw [hll] at hlen ⊢
          have HOX : Hid (OM w wr (w.heap.size + 3) (.slice oa (q1 m C (x + 1)).length oc) (q1 m C (x + 1))) := by show OM _ _ _ _ _; rw [HXX.out, hin, HLL.out] at hO ⊢; exact hO
          generalize (q1 m C (x + 1)).length = lyn at HOX hlen ⊢
          clear hll hO hin
          go_wp2
          go_roundw
          case rel => exact ⟨x + 1, by go_num, by omega, HOX.out, hB⟩
          case measure => simp [intOf]; omega
    · have hdi : decide ((x : Int) < (v : Int)) = false := by simp; omega
      have hxv : v = x := by omega
      have HPV : Hid (q1 m C v = Lx) := by show _ = _; rw [hxv]; exact HLx.out
      rw [HPV.out] at HEND
      have HOP : Hid (OM w wr (w.heap.size + 3) (.slice oa Lx.length oc) (Lx ++ q2 m C (A.take 0))) := by rw [HE3.out, List.append_nil]; exact hO
      have HBP : Hid (Below (w.heap.size + 3) w0 wr) := hB
      generalize Lx.length = lxn at HOP ⊢
      have hii : ¬ (x : Int) < (v : Int) := by omega
      clear hO hB HLx hxv HPV
      go_wp2
      go_loopw [8, 12] (fun lv iv wr => ∃ (i : Nat), iv = .int .i64 (i : Int) ∧ i ≤ na ∧ OM w wr (w.heap.size + 3) lv (Lx ++ q2 m C (A.take i)) ∧ Below (w.heap.size + 3) w0 wr) (fun lv iv _ => (na - intOf iv).toNat)
      case atStart => exact ⟨0, rfl, by omega, HOP.out, HBP.out⟩
      case round =>
        clear HOP HBP
        obtain ⟨i, rfl, hi, hO, hB⟩ := hrel
        obtain ⟨oa, oc, rfl⟩ := hO.form
        obtain ⟨Li, HLi⟩ : ∃ Li, Hid (Lx ++ q2 m C (A.take i) = Li) := ⟨_, rfl⟩
        have hLi : Li.length ≤ 800 := by rw [← HLi.out, List.length_append]; have := H2L.out i; have := HLXN.out; omega
        have HLIN : Hid (Li.length ≤ 800) := hLi
        rw [HLi.out] at hO ⊢
        obtain ⟨⟨k0, k1⟩, ⟨k2, k3⟩, hr⟩ := HCW.out _ hB
        by_cases hli : i < na
        · have hdj : decide ((i : Int) < (na : Int)) = true := by simp; omega
          have hji : (i : Int) < (na : Int) := by omega
          have hni : ¬ (na : Int) ≤ (i : Int) := by omega
          obtain ⟨a, ab, ao, rq, ro, rc, hai, ha99, rfl, hrow⟩ := HAT.out i hli
          obtain ⟨r0, _⟩ := hrow wr (HBW.out wr hB)
          have HRW : Hid (∀ W, Below (w.heap.size + 3) w0 W → W.cell? ⟨rq, ro, none⟩ = some (.int .i64 ((a.getD 0 0 : Nat) : Int)) ∧ W.cell? ⟨rq, ro + 1, none⟩ = some (.int .i64 ((a.getD 1 0 : Nat) : Int)) ∧ W.cell? ⟨rq, ro + 2, none⟩ = some (.int .i64 ((a.getD 2 0 : Nat) : Int))) := fun W h => ⟨(hrow W (HBW.out W h)).2 0 (by omega), (hrow W (HBW.out W h)).2 1 (by omega), (hrow W (HBW.out W h)).2 2 (by omega)⟩
          have his := H2S.out i a hai
          have HIX : Hid (Lx ++ q2 m C (A.take (i + 1)) = (Li ++ q2y m a m) ++ q2c m a (C.take nc)) := by show _ = _; rw [his, ← List.append_assoc, ← List.append_assoc, HLi.out]
          have HYX : Hid (∀ y, q2y m a (y + 1) = q2y m a y ++ [[a.getD 0 0 * m + y, a.getD 1 0 * m + y, a.getD 2 0 * m + y]]) := HYS.out a
          have H6X : Hid (∀ (c : List Nat) (k : Nat), q6 m a c (k + 1) = q6 m a c k ++ [[a.getD 0 0 * m + c.getD (p3 k 0) 0, a.getD 1 0 * m + c.getD (p3 k 1) 0, a.getD 2 0 * m + c.getD (p3 k 2) 0]]) := H6S.out a
          have b0 := ha99 0
          have b1 := ha99 1
          have b2 := ha99 2
          have HOM : Hid (OM w wr (w.heap.size + 3) (.slice oa Li.length oc) (Li ++ q2y m a 0)) := by rw [HE4.out, List.append_nil]; exact hO
          have HB1 : Hid (Below (w.heap.size + 3) w0 wr) := hB
          generalize a.getD 0 0 = e0 at *
          generalize a.getD 1 0 = e1 at *
          generalize a.getD 2 0 = e2 at *
          have m0 : (e0 : Int) * (m : Int) = ((e0 * m : Nat) : Int) := by simp
          have m1 : (e1 : Int) * (m : Int) = ((e1 * m : Nat) : Int) := by simp
          have m2 : (e2 : Int) * (m : Int) = ((e2 * m : Nat) : Int) := by simp
          have c0 := HXM.out e0 b0
          have c1 := HXM.out e1 b1
          have c2 := HXM.out e2 b2
          generalize e0 * m = f0 at *
          generalize e1 * m = f1 at *
          generalize e2 * m = f2 at *
          generalize Li.length = lin at HOM ⊢
          clear his hrow hai ha99 hO hB hLi hr HLi
          go_wp2
          clear r0 k0 k1 k2 k3
          go_loopw [8, 14] (fun lv yv wr => ∃ (y : Nat), yv = .int .i64 (y : Int) ∧ y ≤ m ∧ OM w wr (w.heap.size + 3) lv (Li ++ q2y m a y) ∧ Below (w.heap.size + 3) w0 wr) (fun lv yv _ => (m - intOf yv).toNat)
          case atStart => exact ⟨0, rfl, by omega, HOM.out, HB1.out⟩
          case round =>
            clear HOM HB1
            obtain ⟨y, rfl, hy, hO, hB⟩ := hrel
            obtain ⟨oa, oc, rfl⟩ := hO.form
            have hsz := HSW.out _ hB
            obtain ⟨LL, HLL⟩ : ∃ LL, Hid (Li ++ q2y m a y = LL) := ⟨_, rfl⟩
            have hlen : LL.length ≤ 900 := by rw [← HLL.out, List.length_append]; have := HYL.out a y; have := HLIN.out; omega
            rw [HLL.out] at hO ⊢
            obtain ⟨ln, HLN⟩ : ∃ ln, Hid (LL.length = ln) := ⟨_, rfl⟩
            by_cases hly : y < m
            · have hdy : decide ((y : Int) < (m : Int)) = true := by simp; omega
              have hyi : (y : Int) < (m : Int) := by omega
              have his := HYX.out y
              have HUS : Hid (Li ++ q2y m a (y + 1) = LL ++ [[f0 + y, f1 + y, f2 + y]]) := by show _ = _; rw [his, ← List.append_assoc, HLL.out]
              have HOM : Hid (OM w wr (w.heap.size + 3) (.slice oa LL.length oc) LL) := hO
              rw [HLN.out] at hlen HOM ⊢
              clear his hO HLL
              obtain ⟨z0, hz0⟩ : ∃ z, z = f0 + y := ⟨_, rfl⟩
              obtain ⟨z1, hz1⟩ : ∃ z, z = f1 + y := ⟨_, rfl⟩
              obtain ⟨z2, hz2⟩ : ∃ z, z = f2 + y := ⟨_, rfl⟩
              rw [← hz0, ← hz1, ← hz2] at HUS
              have ha0 : (f0 : Int) + (y : Int) = (z0 : Int) := by omega
              have hw0 : IntKind.i64.wrap (z0 : Int) = (z0 : Int) := by rw [IntKind.wrap_i64]; omega
              have ha1 : (f1 : Int) + (y : Int) = (z1 : Int) := by omega
              have hw1 : IntKind.i64.wrap (z1 : Int) = (z1 : Int) := by rw [IntKind.wrap_i64]; omega
              have ha2 : (f2 : Int) + (y : Int) = (z2 : Int) := by omega
              have hw2 : IntKind.i64.wrap (z2 : Int) = (z2 : Int) := by rw [IntKind.wrap_i64]; omega
              have hvf0 : IntKind.i64.wrap (f0 : Int) = (f0 : Int) := by rw [IntKind.wrap_i64]; omega
              have hvf1 : IntKind.i64.wrap (f1 : Int) = (f1 : Int) := by rw [IntKind.wrap_i64]; omega
              have hvf2 : IntKind.i64.wrap (f2 : Int) = (f2 : Int) := by rw [IntKind.wrap_i64]; omega
              clear hz0 hz1 hz2
              go_wp2
              refine wp_region_noPanic ?_
              refine wp_region_held_drew (S := fun w' => w'.cell? ⟨rq, ro, none⟩ = some (.int .i64 (e0 : Int)) ∧ w'.cell? ⟨rq, ro + 1, none⟩ = some (.int .i64 (e1 : Int)) ∧ w'.cell? ⟨rq, ro + 2, none⟩ = some (.int .i64 (e2 : Int))) (by kernel_rfl) (HRW.out _ hB.drew) (fun hSx => ?_)
              refine wpAnyH_take (i := 0) (v := .slice oa ln oc) rfl (by kernel_rfl) (by kernel_rfl) (by kernel_rfl) (fun _ _ _ h => h) (Or.inl ⟨by rfl, fun w' hSw => by (try dsimp only at hSw); obtain ⟨hs0, hs1, hs2⟩ := hSw; go_simp⟩) hSx ?_
              try simp only [Act.put, List.setIfInBounds_toArray]
              refine wpAnyH_take (i := 1) (v := .slice (some ⟨rq, ro, none⟩) 3 rc) rfl (by kernel_rfl) (by kernel_rfl) (by kernel_rfl) (fun _ _ _ h => h) (Or.inl ⟨by rfl, fun w' hSw => by (try dsimp only at hSw); obtain ⟨hs0, hs1, hs2⟩ := hSw; go_simp⟩) hSx ?_
              try simp only [Act.put]
              refine wpAnyH_take (i := 2) (v := .pointer (some ⟨rq, ro, none⟩)) rfl (by kernel_rfl) (by kernel_rfl) (by kernel_rfl) (fun _ _ _ h => h) (Or.inl ⟨by rfl, fun w' hSw => by (try dsimp only at hSw); obtain ⟨hs0, hs1, hs2⟩ := hSw; go_simp⟩) hSx ?_
              try simp only [Act.put]
              refine wpAnyH_take (i := 3) (v := .int .i64 (e0 : Int)) rfl (by kernel_rfl) (by kernel_rfl) (by kernel_rfl) (fun _ _ _ h => h) (Or.inl ⟨by rfl, fun w' hSw => by (try dsimp only at hSw); obtain ⟨hs0, hs1, hs2⟩ := hSw; go_simp⟩) hSx ?_
              try simp only [Act.put]
              refine wpAnyH_take (i := 4) (v := .int .i64 (m : Int)) rfl (by kernel_rfl) (by kernel_rfl) (by kernel_rfl) (fun _ _ _ h => h) (Or.inl ⟨by rfl, fun w' hSw => by (try dsimp only at hSw); obtain ⟨hs0, hs1, hs2⟩ := hSw; go_simp⟩) hSx ?_
              try simp only [Act.put]
              refine wpAnyH_take (i := 5) (v := .int .i64 (f0 : Int)) rfl (by kernel_rfl) (by kernel_rfl) (by kernel_rfl) (fun _ _ _ h => h) (Or.inl ⟨by rfl, fun w' hSw => by (try dsimp only at hSw); obtain ⟨hs0, hs1, hs2⟩ := hSw; go_simp⟩) hSx ?_
              try simp only [Act.put]
              refine wpAnyH_take (i := 6) (v := .int .i64 (y : Int)) rfl (by kernel_rfl) (by kernel_rfl) (by kernel_rfl) (fun _ _ _ h => h) (Or.inl ⟨by rfl, fun w' hSw => by (try dsimp only at hSw); obtain ⟨hs0, hs1, hs2⟩ := hSw; go_simp⟩) hSx ?_
              try simp only [Act.put]
              refine wpAnyH_take (i := 7) (v := .int .i64 (z0 : Int)) rfl (by kernel_rfl) (by kernel_rfl) (by kernel_rfl) (fun _ _ _ h => h) (Or.inl ⟨by rfl, fun w' hSw => by (try dsimp only at hSw); obtain ⟨hs0, hs1, hs2⟩ := hSw; go_simp⟩) hSx ?_
              try simp only [Act.put]
              refine wpAnyH_take (i := 8) (v := .slice (some ⟨rq, ro, none⟩) 3 rc) rfl (by kernel_rfl) (by kernel_rfl) (by kernel_rfl) (fun _ _ _ h => h) (Or.inl ⟨by rfl, fun w' hSw => by (try dsimp only at hSw); obtain ⟨hs0, hs1, hs2⟩ := hSw; go_simp⟩) hSx ?_
              try simp only [Act.put]
              refine wpAnyH_take (i := 9) (v := .pointer (some ⟨rq, ro + 1, none⟩)) rfl (by kernel_rfl) (by kernel_rfl) (by kernel_rfl) (fun _ _ _ h => h) (Or.inl ⟨by rfl, fun w' hSw => by (try dsimp only at hSw); obtain ⟨hs0, hs1, hs2⟩ := hSw; go_simp⟩) hSx ?_
              try simp only [Act.put]
              refine wpAnyH_take (i := 10) (v := .int .i64 (e1 : Int)) rfl (by kernel_rfl) (by kernel_rfl) (by kernel_rfl) (fun _ _ _ h => h) (Or.inl ⟨by rfl, fun w' hSw => by (try dsimp only at hSw); obtain ⟨hs0, hs1, hs2⟩ := hSw; go_simp⟩) hSx ?_
              try simp only [Act.put]
              refine wpAnyH_take (i := 11) (v := .int .i64 (m : Int)) rfl (by kernel_rfl) (by kernel_rfl) (by kernel_rfl) (fun _ _ _ h => h) (Or.inl ⟨by rfl, fun w' hSw => by (try dsimp only at hSw); obtain ⟨hs0, hs1, hs2⟩ := hSw; go_simp⟩) hSx ?_
              try simp only [Act.put]
              refine wpAnyH_take (i := 12) (v := .int .i64 (f1 : Int)) rfl (by kernel_rfl) (by kernel_rfl) (by kernel_rfl) (fun _ _ _ h => h) (Or.inl ⟨by rfl, fun w' hSw => by (try dsimp only at hSw); obtain ⟨hs0, hs1, hs2⟩ := hSw; go_simp⟩) hSx ?_
              try simp only [Act.put]
              refine wpAnyH_take (i := 13) (v := .int .i64 (y : Int)) rfl (by kernel_rfl) (by kernel_rfl) (by kernel_rfl) (fun _ _ _ h => h) (Or.inl ⟨by rfl, fun w' hSw => by (try dsimp only at hSw); obtain ⟨hs0, hs1, hs2⟩ := hSw; go_simp⟩) hSx ?_
              try simp only [Act.put]
              refine wpAnyH_take (i := 14) (v := .int .i64 (z1 : Int)) rfl (by kernel_rfl) (by kernel_rfl) (by kernel_rfl) (fun _ _ _ h => h) (Or.inl ⟨by rfl, fun w' hSw => by (try dsimp only at hSw); obtain ⟨hs0, hs1, hs2⟩ := hSw; go_simp⟩) hSx ?_
              try simp only [Act.put]
              refine wpAnyH_take (i := 15) (v := .slice (some ⟨rq, ro, none⟩) 3 rc) rfl (by kernel_rfl) (by kernel_rfl) (by kernel_rfl) (fun _ _ _ h => h) (Or.inl ⟨by rfl, fun w' hSw => by (try dsimp only at hSw); obtain ⟨hs0, hs1, hs2⟩ := hSw; go_simp⟩) hSx ?_
              try simp only [Act.put]
              refine wpAnyH_take (i := 16) (v := .pointer (some ⟨rq, ro + 2, none⟩)) rfl (by kernel_rfl) (by kernel_rfl) (by kernel_rfl) (fun _ _ _ h => h) (Or.inl ⟨by rfl, fun w' hSw => by (try dsimp only at hSw); obtain ⟨hs0, hs1, hs2⟩ := hSw; go_simp⟩) hSx ?_
              try simp only [Act.put]
              refine wpAnyH_take (i := 17) (v := .int .i64 (e2 : Int)) rfl (by kernel_rfl) (by kernel_rfl) (by kernel_rfl) (fun _ _ _ h => h) (Or.inl ⟨by rfl, fun w' hSw => by (try dsimp only at hSw); obtain ⟨hs0, hs1, hs2⟩ := hSw; go_simp⟩) hSx ?_
              try simp only [Act.put]
              refine wpAnyH_take (i := 18) (v := .int .i64 (m : Int)) rfl (by kernel_rfl) (by kernel_rfl) (by kernel_rfl) (fun _ _ _ h => h) (Or.inl ⟨by rfl, fun w' hSw => by (try dsimp only at hSw); obtain ⟨hs0, hs1, hs2⟩ := hSw; go_simp⟩) hSx ?_
              try simp only [Act.put]
              refine wpAnyH_take (i := 19) (v := .int .i64 (f2 : Int)) rfl (by kernel_rfl) (by kernel_rfl) (by kernel_rfl) (fun _ _ _ h => h) (Or.inl ⟨by rfl, fun w' hSw => by (try dsimp only at hSw); obtain ⟨hs0, hs1, hs2⟩ := hSw; go_simp⟩) hSx ?_
              try simp only [Act.put]
              refine wpAnyH_take (i := 20) (v := .int .i64 (y : Int)) rfl (by kernel_rfl) (by kernel_rfl) (by kernel_rfl) (fun _ _ _ h => h) (Or.inl ⟨by rfl, fun w' hSw => by (try dsimp only at hSw); obtain ⟨hs0, hs1, hs2⟩ := hSw; go_simp⟩) hSx ?_
              try simp only [Act.put]
              refine wpAnyH_take (i := 21) (v := .int .i64 (z2 : Int)) rfl (by kernel_rfl) (by kernel_rfl) (by kernel_rfl) (fun _ _ _ h => h) (Or.inl ⟨by rfl, fun w' hSw => by (try dsimp only at hSw); obtain ⟨hs0, hs1, hs2⟩ := hSw; go_simp⟩) hSx ?_
              try simp only [Act.put]
              refine wpAnyH_ready (rs := [22]) (by kernel_rfl) (by simp) ?_
              refine AllReadyH.cons rfl (fun J hJ => ?_) AllReadyH.nil
              go_simp
              have hBa : Below (w.heap.size + 3) w0 (wr.drew.alloc (.cells #[.int .i64 (z0 : Int), .int .i64 (z1 : Int), .int .i64 (z2 : Int)] 3)) := hB.drew.trans ((balloc wr.drew (.cells #[.int .i64 (z0 : Int), .int .i64 (z1 : Int), .int .i64 (z2 : Int)] 3)).mono hsz)
              refine hJ.out _ _ (HRW.out _ hBa) (fun hSx => ?_)
              clear hJ J
              try simp only [Act.put, List.setIfInBounds_toArray, List.set_cons_zero, List.set_cons_succ]
              refine wpAnyH_ready (rs := [23]) (by kernel_rfl) (by simp) ?_
              refine AllReadyH.cons rfl (fun J hJ => ?_) AllReadyH.nil
              go_simp
              have hBb : Below (w.heap.size + 3) w0 ((wr.drew.alloc (.cells #[.int .i64 (z0 : Int), .int .i64 (z1 : Int), .int .i64 (z2 : Int)] 3)).alloc (.cells #[.slice (some ⟨wr.heap.size, 0, none⟩) 3 3] 45)) := hBa.trans ((balloc (wr.drew.alloc (.cells #[.int .i64 (z0 : Int), .int .i64 (z1 : Int), .int .i64 (z2 : Int)] 3)) (.cells #[.slice (some ⟨wr.heap.size, 0, none⟩) 3 3] 45)).mono (by rw [World.size_alloc]; exact Nat.le_succ_of_le hsz))
              refine hJ.out _ _ (HRW.out _ hBb) (fun hSx => ?_)
              clear hJ J
              try simp only [Act.put, List.setIfInBounds_toArray, List.set_cons_zero, List.set_cons_succ]
              refine wpAnyH_ready (rs := [24]) (by kernel_rfl) (by simp) ?_
              refine AllReadyH.cons rfl (fun J hJ => ?_) AllReadyH.nil
              rw [if_pos (by rfl)]
              obtain ⟨vals6, h16, h26⟩ := HOM.out
              have H16 : Hid (wr.drew.ownsRow (w.heap.size + 3) 45 1 (.slice oa ln oc) LL.length vals6) := own_keep h16 fun b _ _ => rfl
              have H26 : Hid (∀ (i : Nat) (u : Value) (l : List Nat), vals6[i]? = some u → LL[i]? = some l → ORow wr.drew (w.heap.size + 3) u l ∨ Sl w u (l.map Int.ofNat)) := fun i u l e1 e2 => (h26 i u l e1 e2).imp (fun h => own_keep h fun b _ _ => rfl) id
              have h36 := H16.out
              rw [HLN.out] at h36
              refine wp_append_lies _ _ _ 22 (by rfl) (w.heap.size + 3) 45 i45 (.slice none 0 0) 1 24 undR ji3 jz0 jz1 jz2 rfl (by decide) (.slice oa ln oc) ln vals6 (by rfl) ((h36.alloc _).alloc _) ⟨wr.heap.size + 1, 0, none⟩ 1 1 [.slice (some ⟨wr.heap.size, 0, none⟩) 3 3] (by rfl) rfl ?n6 (fun u hu => by simp at hu; subst hu; rfl) (by decide) (by unfold maxLen; omega) (by omega) (Nat.le_trans (by have := HZ0.out; omega : (w.heap.size + 3) ≤ w0.heap.size) hBb.size) _ rfl ?_
              case n6 =>
                have hnw := news_row (wr.drew.alloc (.cells #[.int .i64 (z0 : Int), .int .i64 (z1 : Int), .int .i64 (z2 : Int)] 3)) (.slice (some ⟨wr.heap.size, 0, none⟩) 3 3)
                rw [World.size_alloc] at hnw
                exact hnw
              intro g6 cap6 w6 hown6 hgr6 _ _
              have hap := om_app3 (L := LL) (x := z0) (y := z1) (z := z2) H16.out H26.out HLN.out hsz hown6 hgr6 rfl rfl rfl
              have hB6 : Below (w.heap.size + 3) w0 w6 := hB.drew.trans hap.2
              rw [← HUS.out] at hap
              have hOn := hap.1
              clear hap hown6 hgr6 h16 h26 h36 H16 H26 hBa hBb
              refine hJ.out _ _ (HRW.out _ hB6) (fun hSx => ?_)
              clear hJ J
              try simp only [Act.put, List.setIfInBounds_toArray]
              refine wpAnyH_take (i := 25) (v := .slice (some ⟨g6, 0, none⟩) (ln + 1) cap6) rfl (by kernel_rfl) (by kernel_rfl) (by kernel_rfl) (fun _ _ _ h => h) (Or.inl ⟨by rfl, fun w' hSw => by (try dsimp only at hSw); obtain ⟨hs0, hs1, hs2⟩ := hSw; go_simp⟩) hSx ?_
              try simp only [Act.put]
              refine wpAnyH_done (by kernel_rfl) ?_ _
              refine NoPanic.normal ?_
              clear hSx
              clear HOM
              go_wp2
              go_roundw
              case rel => exact ⟨y + 1, by go_num, by omega, hOn, hB6⟩
              case measure => simp [intOf]; omega
            · have hdy : decide ((y : Int) < (m : Int)) = false := by simp; omega
              have hym : m = y := by omega
              have HLM : Hid (Li ++ q2y m a m = LL) := by show _ = _; rw [← HLL.out, ← hym]
              rw [HLM.out] at HIX
              have HOM : Hid (OM w wr (w.heap.size + 3) (.slice oa LL.length oc) (LL ++ q2c m a (C.take 0))) := by rw [HE5.out, List.append_nil]; exact hO
              have HB1 : Hid (Below (w.heap.size + 3) w0 wr) := hB
              have HPN : Hid (LL.length ≤ 900) := hlen
              generalize LL.length = lpn at HOM ⊢
              have hyi : ¬ (y : Int) < (m : Int) := by omega
              clear hO hB HLL HLM hym HLN hlen hsz
              generalize LL = PP at *
              go_wp2
              go_loopw [8, 15] (fun lv jv wr => ∃ (j : Nat), jv = .int .i64 (j : Int) ∧ j ≤ nc ∧ OM w wr (w.heap.size + 3) lv (PP ++ q2c m a (C.take j)) ∧ Below (w.heap.size + 3) w0 wr) (fun lv jv _ => (nc - intOf jv).toNat)
              case atStart => exact ⟨0, rfl, by omega, HOM.out, HB1.out⟩
              case round =>
                clear HOM HB1
                obtain ⟨j, rfl, hj, hO, hB⟩ := hrel
                obtain ⟨oa, oc, rfl⟩ := hO.form
                obtain ⟨Lj, HLj⟩ : ∃ Lj, Hid (PP ++ q2c m a (C.take j) = Lj) := ⟨_, rfl⟩
                have hLj : Lj.length ≤ 2100 := by rw [← HLj.out, List.length_append]; have := HCL.out a j; have := HPN.out; omega
                have HLJN : Hid (Lj.length ≤ 2100) := hLj
                rw [HLj.out] at hO ⊢
                obtain ⟨⟨k0, k1⟩, ⟨k2, k3⟩, _⟩ := HCW.out _ hB
                by_cases hlj : j < nc
                · have hdj2 : decide ((j : Int) < (nc : Int)) = true := by simp; omega
                  have hjj : (j : Int) < (nc : Int) := by omega
                  have hnj : ¬ (nc : Int) ≤ (j : Int) := by omega
                  obtain ⟨c, bb, off, sq, so, sc, hci, hc99, rfl, hrow⟩ := HCT.out j hlj
                  obtain ⟨r0, _⟩ := hrow wr (HBW.out wr hB)
                  have HSC : Hid (∀ W, Below (w.heap.size + 3) w0 W → ∀ t, t < 3 → W.cell? ⟨sq, so + t, none⟩ = some (.int .i64 ((c.getD t 0 : Nat) : Int))) := fun W h t ht => (hrow W (HBW.out W h)).2 t ht
                  have his := HCS.out a j c hci
                  have HJX : Hid (PP ++ q2c m a (C.take (j + 1)) = Lj ++ q6 m a c 6) := by show _ = _; rw [his, ← List.append_assoc, HLj.out]
                  have H6Y : Hid (∀ k, q6 m a c (k + 1) = q6 m a c k ++ [[f0 + c.getD (p3 k 0) 0, f1 + c.getD (p3 k 1) 0, f2 + c.getD (p3 k 2) 0]]) := H6X.out c
                  have HC9 : Hid (∀ t, c.getD t 0 ≤ 99) := hc99
                  have HOM : Hid (OM w wr (w.heap.size + 3) (.slice oa Lj.length oc) (Lj ++ q6 m a c 0)) := by rw [HE6.out, List.append_nil]; exact hO
                  have HB1 : Hid (Below (w.heap.size + 3) w0 wr) := hB
                  generalize Lj.length = ljn at HOM ⊢
                  clear his hrow hci hc99 hO hB hLj HLj
                  go_wp2
                  clear r0 k0 k1 k2 k3
                  go_loopw [8, 17] (fun lv kv wr => ∃ (k : Nat), kv = .int .i64 (k : Int) ∧ k ≤ 6 ∧ OM w wr (w.heap.size + 3) lv (Lj ++ q6 m a c k) ∧ Below (w.heap.size + 3) w0 wr) (fun lv kv _ => (6 - intOf kv).toNat)
                  case atStart => exact ⟨0, rfl, by omega, HOM.out, HB1.out⟩
                  case round =>
                    clear HOM HB1
                    obtain ⟨k, rfl, hk, hO, hB⟩ := hrel
                    obtain ⟨oa, oc, rfl⟩ := hO.form
                    have hsz := HSW.out _ hB
                    obtain ⟨LL, HLL⟩ : ∃ LL, Hid (Lj ++ q6 m a c k = LL) := ⟨_, rfl⟩
                    have hlen : LL.length ≤ 2200 := by rw [← HLL.out, List.length_append]; have := H6L.out a c k; have := HLJN.out; omega
                    rw [HLL.out] at hO ⊢
                    obtain ⟨ln, HLN⟩ : ∃ ln, Hid (LL.length = ln) := ⟨_, rfl⟩
                    by_cases hlk : k < 6
                    · have hdk : decide ((k : Int) < 6) = true := by simp; omega
                      have hki : (k : Int) < 6 := by omega
                      have his := H6Y.out k
                      have HUS : Hid (Lj ++ q6 m a c (k + 1) = LL ++ [[f0 + c.getD (p3 k 0) 0, f1 + c.getD (p3 k 1) 0, f2 + c.getD (p3 k 2) 0]]) := by show _ = _; rw [his, ← List.append_assoc, HLL.out]
                      obtain ⟨pl0, pl1, pl2⟩ := HPL.out k hlk
                      have HPK : Hid (Calls Try.prog 36 #[.int .i64 3, .int .i64 (k : Int)] wr fun e w' => ∃ x, e = .returned (.tuple #[x, .int .i64 0]) ∧ w'.ownsRow (wr.heap.size + 1) 3 1 x 3 (Pr.vl [p3 k 0, p3 k 1, p3 k 2]) ∧ Below wr.heap.size wr w') := HPR.out k wr hlk
                      have HS0 : Hid (∀ W, Below (w.heap.size + 3) w0 W → W.cell? ⟨sq, so + p3 k 0, none⟩ = some (.int .i64 ((c.getD (p3 k 0) 0 : Nat) : Int)) ∧ W.cell? ⟨sq, so + p3 k 1, none⟩ = some (.int .i64 ((c.getD (p3 k 1) 0 : Nat) : Int)) ∧ W.cell? ⟨sq, so + p3 k 2, none⟩ = some (.int .i64 ((c.getD (p3 k 2) 0 : Nat) : Int))) := fun W h => ⟨HSC.out W h _ pl0, HSC.out W h _ pl1, HSC.out W h _ pl2⟩
                      have d0 := HC9.out (p3 k 0)
                      have d1 := HC9.out (p3 k 1)
                      have d2 := HC9.out (p3 k 2)
                      obtain ⟨vals, h1, h2⟩ := hO
                      have HNE : Hid (∀ b, (Value.slice oa LL.length oc).ownBlock = some b → b < wr.heap.size) := fun b hb => (h1.lt b hb).2
                      have HOM0 : Hid (OM w wr (w.heap.size + 3) (.slice oa LL.length oc) LL) := ⟨vals, h1, h2⟩
                      rw [HLN.out] at hlen HOM0 HNE ⊢
                      generalize c.getD (p3 k 0) 0 = g0 at *
                      generalize c.getD (p3 k 1) 0 = g1 at *
                      generalize c.getD (p3 k 2) 0 = g2 at *
                      generalize p3 k 0 = p0 at *
                      generalize p3 k 1 = p1 at *
                      generalize p3 k 2 = p2 at *
                      clear his h1 h2 HLL
                      go_wp2_with (go_at_call 36; refine HPK.out.mono ?_; rintro e wp ⟨px, rfl, hpo, hbp⟩; clear HPK)
                      have hBp : Below (w.heap.size + 3) w0 wp := hB.trans (hbp.mono hsz)
                      have hszp := HSW.out _ hBp
                      have HOM : Hid (OM w wp (w.heap.size + 3) (.slice oa ln oc) LL) := by
                        obtain ⟨vals, h1, h2⟩ := HOM0.out
                        exact ⟨vals, own_keep h1 fun b _ hb => hbp.block b hb, fun i u l e1 e2 => (h2 i u l e1 e2).imp (fun h => h.below hbp) id⟩
                      obtain ⟨pb, pc, rfl, hpge, hpl, hpcell⟩ := own3 hpo
                      have HS9 : Hid (∀ W, Below (w.heap.size + 3) w0 W → W.heap[pb]? = wp.heap[pb]? → (W.cell? ⟨rq, ro, none⟩ = some (.int .i64 (e0 : Int)) ∧ W.cell? ⟨rq, ro + 1, none⟩ = some (.int .i64 (e1 : Int)) ∧ W.cell? ⟨rq, ro + 2, none⟩ = some (.int .i64 (e2 : Int))) ∧ (W.cell? ⟨pb, 0, none⟩ = some (.int .i64 (p0 : Int)) ∧ W.cell? ⟨pb, 1, none⟩ = some (.int .i64 (p1 : Int)) ∧ W.cell? ⟨pb, 2, none⟩ = some (.int .i64 (p2 : Int))) ∧ (W.cell? ⟨sq, so + p0, none⟩ = some (.int .i64 (g0 : Int)) ∧ W.cell? ⟨sq, so + p1, none⟩ = some (.int .i64 (g1 : Int)) ∧ W.cell? ⟨sq, so + p2, none⟩ = some (.int .i64 (g2 : Int)))) := fun W h hp => ⟨HRW.out W h, hpcell W hp, HS0.out W h⟩
                      have np0 : ¬ (3 : Int) ≤ (p0 : Int) := by omega
                      have np1 : ¬ (3 : Int) ≤ (p1 : Int) := by omega
                      have np2 : ¬ (3 : Int) ≤ (p2 : Int) := by omega
                      clear hpo hbp hpcell hB HOM0 HS0
                      obtain ⟨z0, hz0⟩ : ∃ z, z = f0 + g0 := ⟨_, rfl⟩
                      obtain ⟨z1, hz1⟩ : ∃ z, z = f1 + g1 := ⟨_, rfl⟩
                      obtain ⟨z2, hz2⟩ : ∃ z, z = f2 + g2 := ⟨_, rfl⟩
                      rw [← hz0, ← hz1, ← hz2] at HUS
                      have ha0 : (f0 : Int) + (g0 : Int) = (z0 : Int) := by omega
                      have hw0 : IntKind.i64.wrap (z0 : Int) = (z0 : Int) := by rw [IntKind.wrap_i64]; omega
                      have ha1 : (f1 : Int) + (g1 : Int) = (z1 : Int) := by omega
                      have hw1 : IntKind.i64.wrap (z1 : Int) = (z1 : Int) := by rw [IntKind.wrap_i64]; omega
                      have ha2 : (f2 : Int) + (g2 : Int) = (z2 : Int) := by omega
                      have hw2 : IntKind.i64.wrap (z2 : Int) = (z2 : Int) := by rw [IntKind.wrap_i64]; omega
                      have hvf0 : IntKind.i64.wrap (f0 : Int) = (f0 : Int) := by rw [IntKind.wrap_i64]; omega
                      have hvf1 : IntKind.i64.wrap (f1 : Int) = (f1 : Int) := by rw [IntKind.wrap_i64]; omega
                      have hvf2 : IntKind.i64.wrap (f2 : Int) = (f2 : Int) := by rw [IntKind.wrap_i64]; omega
                      clear hz0 hz1 hz2
                      go_wp2
                      refine wp_region_noPanic ?_
                      refine wp_region_held_drew (S := fun w' => (w'.cell? ⟨rq, ro, none⟩ = some (.int .i64 (e0 : Int)) ∧ w'.cell? ⟨rq, ro + 1, none⟩ = some (.int .i64 (e1 : Int)) ∧ w'.cell? ⟨rq, ro + 2, none⟩ = some (.int .i64 (e2 : Int))) ∧ (w'.cell? ⟨pb, 0, none⟩ = some (.int .i64 (p0 : Int)) ∧ w'.cell? ⟨pb, 1, none⟩ = some (.int .i64 (p1 : Int)) ∧ w'.cell? ⟨pb, 2, none⟩ = some (.int .i64 (p2 : Int))) ∧ (w'.cell? ⟨sq, so + p0, none⟩ = some (.int .i64 (g0 : Int)) ∧ w'.cell? ⟨sq, so + p1, none⟩ = some (.int .i64 (g1 : Int)) ∧ w'.cell? ⟨sq, so + p2, none⟩ = some (.int .i64 (g2 : Int)))) (by kernel_rfl) (HS9.out _ hBp.drew rfl) (fun hSx => ?_)
                      refine wpAnyH_take (i := 0) (v := .slice oa ln oc) rfl (by kernel_rfl) (by kernel_rfl) (by kernel_rfl) (fun _ _ _ h => h) (Or.inl ⟨by rfl, fun w' hSw => by (try dsimp only at hSw); obtain ⟨⟨hs0, hs1, hs2⟩, ⟨hs3, hs4, hs5⟩, hs6, hs7, hs8⟩ := hSw; go_simp⟩) hSx ?_
                      try simp only [Act.put, List.setIfInBounds_toArray]
                      refine wpAnyH_take (i := 1) (v := .slice (some ⟨rq, ro, none⟩) 3 rc) rfl (by kernel_rfl) (by kernel_rfl) (by kernel_rfl) (fun _ _ _ h => h) (Or.inl ⟨by rfl, fun w' hSw => by (try dsimp only at hSw); obtain ⟨⟨hs0, hs1, hs2⟩, ⟨hs3, hs4, hs5⟩, hs6, hs7, hs8⟩ := hSw; go_simp⟩) hSx ?_
                      try simp only [Act.put]
                      refine wpAnyH_take (i := 2) (v := .pointer (some ⟨rq, ro, none⟩)) rfl (by kernel_rfl) (by kernel_rfl) (by kernel_rfl) (fun _ _ _ h => h) (Or.inl ⟨by rfl, fun w' hSw => by (try dsimp only at hSw); obtain ⟨⟨hs0, hs1, hs2⟩, ⟨hs3, hs4, hs5⟩, hs6, hs7, hs8⟩ := hSw; go_simp⟩) hSx ?_
                      try simp only [Act.put]
                      refine wpAnyH_take (i := 3) (v := .int .i64 (e0 : Int)) rfl (by kernel_rfl) (by kernel_rfl) (by kernel_rfl) (fun _ _ _ h => h) (Or.inl ⟨by rfl, fun w' hSw => by (try dsimp only at hSw); obtain ⟨⟨hs0, hs1, hs2⟩, ⟨hs3, hs4, hs5⟩, hs6, hs7, hs8⟩ := hSw; go_simp⟩) hSx ?_
                      try simp only [Act.put]
                      refine wpAnyH_take (i := 4) (v := .int .i64 (m : Int)) rfl (by kernel_rfl) (by kernel_rfl) (by kernel_rfl) (fun _ _ _ h => h) (Or.inl ⟨by rfl, fun w' hSw => by (try dsimp only at hSw); obtain ⟨⟨hs0, hs1, hs2⟩, ⟨hs3, hs4, hs5⟩, hs6, hs7, hs8⟩ := hSw; go_simp⟩) hSx ?_
                      try simp only [Act.put]
                      refine wpAnyH_take (i := 5) (v := .int .i64 (f0 : Int)) rfl (by kernel_rfl) (by kernel_rfl) (by kernel_rfl) (fun _ _ _ h => h) (Or.inl ⟨by rfl, fun w' hSw => by (try dsimp only at hSw); obtain ⟨⟨hs0, hs1, hs2⟩, ⟨hs3, hs4, hs5⟩, hs6, hs7, hs8⟩ := hSw; go_simp⟩) hSx ?_
                      try simp only [Act.put]
                      refine wpAnyH_take (i := 6) (v := .slice (some ⟨sq, so, none⟩) 3 sc) rfl (by kernel_rfl) (by kernel_rfl) (by kernel_rfl) (fun _ _ _ h => h) (Or.inl ⟨by rfl, fun w' hSw => by (try dsimp only at hSw); obtain ⟨⟨hs0, hs1, hs2⟩, ⟨hs3, hs4, hs5⟩, hs6, hs7, hs8⟩ := hSw; go_simp⟩) hSx ?_
                      try simp only [Act.put]
                      refine wpAnyH_take (i := 7) (v := .slice (some ⟨pb, 0, none⟩) 3 pc) rfl (by kernel_rfl) (by kernel_rfl) (by kernel_rfl) (fun _ _ _ h => h) (Or.inl ⟨by rfl, fun w' hSw => by (try dsimp only at hSw); obtain ⟨⟨hs0, hs1, hs2⟩, ⟨hs3, hs4, hs5⟩, hs6, hs7, hs8⟩ := hSw; go_simp⟩) hSx ?_
                      try simp only [Act.put]
                      refine wpAnyH_take (i := 8) (v := .pointer (some ⟨pb, 0, none⟩)) rfl (by kernel_rfl) (by kernel_rfl) (by kernel_rfl) (fun _ _ _ h => h) (Or.inl ⟨by rfl, fun w' hSw => by (try dsimp only at hSw); obtain ⟨⟨hs0, hs1, hs2⟩, ⟨hs3, hs4, hs5⟩, hs6, hs7, hs8⟩ := hSw; go_simp⟩) hSx ?_
                      try simp only [Act.put]
                      refine wpAnyH_take (i := 9) (v := .int .i64 (p0 : Int)) rfl (by kernel_rfl) (by kernel_rfl) (by kernel_rfl) (fun _ _ _ h => h) (Or.inl ⟨by rfl, fun w' hSw => by (try dsimp only at hSw); obtain ⟨⟨hs0, hs1, hs2⟩, ⟨hs3, hs4, hs5⟩, hs6, hs7, hs8⟩ := hSw; go_simp⟩) hSx ?_
                      try simp only [Act.put]
                      refine wpAnyH_take (i := 10) (v := .pointer (some ⟨sq, so + p0, none⟩)) rfl (by kernel_rfl) (by kernel_rfl) (by kernel_rfl) (fun _ _ _ h => h) (Or.inl ⟨by rfl, fun w' hSw => by (try dsimp only at hSw); obtain ⟨⟨hs0, hs1, hs2⟩, ⟨hs3, hs4, hs5⟩, hs6, hs7, hs8⟩ := hSw; go_simp⟩) hSx ?_
                      try simp only [Act.put]
                      refine wpAnyH_take (i := 11) (v := .int .i64 (g0 : Int)) rfl (by kernel_rfl) (by kernel_rfl) (by kernel_rfl) (fun _ _ _ h => h) (Or.inl ⟨by rfl, fun w' hSw => by (try dsimp only at hSw); obtain ⟨⟨hs0, hs1, hs2⟩, ⟨hs3, hs4, hs5⟩, hs6, hs7, hs8⟩ := hSw; go_simp⟩) hSx ?_
                      try simp only [Act.put]
                      refine wpAnyH_take (i := 12) (v := .int .i64 (z0 : Int)) rfl (by kernel_rfl) (by kernel_rfl) (by kernel_rfl) (fun _ _ _ h => h) (Or.inl ⟨by rfl, fun w' hSw => by (try dsimp only at hSw); obtain ⟨⟨hs0, hs1, hs2⟩, ⟨hs3, hs4, hs5⟩, hs6, hs7, hs8⟩ := hSw; go_simp⟩) hSx ?_
                      try simp only [Act.put]
                      refine wpAnyH_take (i := 13) (v := .slice (some ⟨rq, ro, none⟩) 3 rc) rfl (by kernel_rfl) (by kernel_rfl) (by kernel_rfl) (fun _ _ _ h => h) (Or.inl ⟨by rfl, fun w' hSw => by (try dsimp only at hSw); obtain ⟨⟨hs0, hs1, hs2⟩, ⟨hs3, hs4, hs5⟩, hs6, hs7, hs8⟩ := hSw; go_simp⟩) hSx ?_
                      try simp only [Act.put]
                      refine wpAnyH_take (i := 14) (v := .pointer (some ⟨rq, ro + 1, none⟩)) rfl (by kernel_rfl) (by kernel_rfl) (by kernel_rfl) (fun _ _ _ h => h) (Or.inl ⟨by rfl, fun w' hSw => by (try dsimp only at hSw); obtain ⟨⟨hs0, hs1, hs2⟩, ⟨hs3, hs4, hs5⟩, hs6, hs7, hs8⟩ := hSw; go_simp⟩) hSx ?_
                      try simp only [Act.put]
                      refine wpAnyH_take (i := 15) (v := .int .i64 (e1 : Int)) rfl (by kernel_rfl) (by kernel_rfl) (by kernel_rfl) (fun _ _ _ h => h) (Or.inl ⟨by rfl, fun w' hSw => by (try dsimp only at hSw); obtain ⟨⟨hs0, hs1, hs2⟩, ⟨hs3, hs4, hs5⟩, hs6, hs7, hs8⟩ := hSw; go_simp⟩) hSx ?_
                      try simp only [Act.put]
                      refine wpAnyH_take (i := 16) (v := .int .i64 (m : Int)) rfl (by kernel_rfl) (by kernel_rfl) (by kernel_rfl) (fun _ _ _ h => h) (Or.inl ⟨by rfl, fun w' hSw => by (try dsimp only at hSw); obtain ⟨⟨hs0, hs1, hs2⟩, ⟨hs3, hs4, hs5⟩, hs6, hs7, hs8⟩ := hSw; go_simp⟩) hSx ?_
                      try simp only [Act.put]
                      refine wpAnyH_take (i := 17) (v := .int .i64 (f1 : Int)) rfl (by kernel_rfl) (by kernel_rfl) (by kernel_rfl) (fun _ _ _ h => h) (Or.inl ⟨by rfl, fun w' hSw => by (try dsimp only at hSw); obtain ⟨⟨hs0, hs1, hs2⟩, ⟨hs3, hs4, hs5⟩, hs6, hs7, hs8⟩ := hSw; go_simp⟩) hSx ?_
                      try simp only [Act.put]
                      refine wpAnyH_take (i := 18) (v := .slice (some ⟨sq, so, none⟩) 3 sc) rfl (by kernel_rfl) (by kernel_rfl) (by kernel_rfl) (fun _ _ _ h => h) (Or.inl ⟨by rfl, fun w' hSw => by (try dsimp only at hSw); obtain ⟨⟨hs0, hs1, hs2⟩, ⟨hs3, hs4, hs5⟩, hs6, hs7, hs8⟩ := hSw; go_simp⟩) hSx ?_
                      try simp only [Act.put]
                      refine wpAnyH_take (i := 19) (v := .slice (some ⟨pb, 0, none⟩) 3 pc) rfl (by kernel_rfl) (by kernel_rfl) (by kernel_rfl) (fun _ _ _ h => h) (Or.inl ⟨by rfl, fun w' hSw => by (try dsimp only at hSw); obtain ⟨⟨hs0, hs1, hs2⟩, ⟨hs3, hs4, hs5⟩, hs6, hs7, hs8⟩ := hSw; go_simp⟩) hSx ?_
                      try simp only [Act.put]
                      refine wpAnyH_take (i := 20) (v := .pointer (some ⟨pb, 1, none⟩)) rfl (by kernel_rfl) (by kernel_rfl) (by kernel_rfl) (fun _ _ _ h => h) (Or.inl ⟨by rfl, fun w' hSw => by (try dsimp only at hSw); obtain ⟨⟨hs0, hs1, hs2⟩, ⟨hs3, hs4, hs5⟩, hs6, hs7, hs8⟩ := hSw; go_simp⟩) hSx ?_
                      try simp only [Act.put]
                      refine wpAnyH_take (i := 21) (v := .int .i64 (p1 : Int)) rfl (by kernel_rfl) (by kernel_rfl) (by kernel_rfl) (fun _ _ _ h => h) (Or.inl ⟨by rfl, fun w' hSw => by (try dsimp only at hSw); obtain ⟨⟨hs0, hs1, hs2⟩, ⟨hs3, hs4, hs5⟩, hs6, hs7, hs8⟩ := hSw; go_simp⟩) hSx ?_
                      try simp only [Act.put]
                      refine wpAnyH_take (i := 22) (v := .pointer (some ⟨sq, so + p1, none⟩)) rfl (by kernel_rfl) (by kernel_rfl) (by kernel_rfl) (fun _ _ _ h => h) (Or.inl ⟨by rfl, fun w' hSw => by (try dsimp only at hSw); obtain ⟨⟨hs0, hs1, hs2⟩, ⟨hs3, hs4, hs5⟩, hs6, hs7, hs8⟩ := hSw; go_simp⟩) hSx ?_
                      try simp only [Act.put]
                      refine wpAnyH_take (i := 23) (v := .int .i64 (g1 : Int)) rfl (by kernel_rfl) (by kernel_rfl) (by kernel_rfl) (fun _ _ _ h => h) (Or.inl ⟨by rfl, fun w' hSw => by (try dsimp only at hSw); obtain ⟨⟨hs0, hs1, hs2⟩, ⟨hs3, hs4, hs5⟩, hs6, hs7, hs8⟩ := hSw; go_simp⟩) hSx ?_
                      try simp only [Act.put]
                      refine wpAnyH_take (i := 24) (v := .int .i64 (z1 : Int)) rfl (by kernel_rfl) (by kernel_rfl) (by kernel_rfl) (fun _ _ _ h => h) (Or.inl ⟨by rfl, fun w' hSw => by (try dsimp only at hSw); obtain ⟨⟨hs0, hs1, hs2⟩, ⟨hs3, hs4, hs5⟩, hs6, hs7, hs8⟩ := hSw; go_simp⟩) hSx ?_
                      try simp only [Act.put]
                      refine wpAnyH_take (i := 25) (v := .slice (some ⟨rq, ro, none⟩) 3 rc) rfl (by kernel_rfl) (by kernel_rfl) (by kernel_rfl) (fun _ _ _ h => h) (Or.inl ⟨by rfl, fun w' hSw => by (try dsimp only at hSw); obtain ⟨⟨hs0, hs1, hs2⟩, ⟨hs3, hs4, hs5⟩, hs6, hs7, hs8⟩ := hSw; go_simp⟩) hSx ?_
                      try simp only [Act.put]
                      refine wpAnyH_take (i := 26) (v := .pointer (some ⟨rq, ro + 2, none⟩)) rfl (by kernel_rfl) (by kernel_rfl) (by kernel_rfl) (fun _ _ _ h => h) (Or.inl ⟨by rfl, fun w' hSw => by (try dsimp only at hSw); obtain ⟨⟨hs0, hs1, hs2⟩, ⟨hs3, hs4, hs5⟩, hs6, hs7, hs8⟩ := hSw; go_simp⟩) hSx ?_
                      try simp only [Act.put]
                      refine wpAnyH_take (i := 27) (v := .int .i64 (e2 : Int)) rfl (by kernel_rfl) (by kernel_rfl) (by kernel_rfl) (fun _ _ _ h => h) (Or.inl ⟨by rfl, fun w' hSw => by (try dsimp only at hSw); obtain ⟨⟨hs0, hs1, hs2⟩, ⟨hs3, hs4, hs5⟩, hs6, hs7, hs8⟩ := hSw; go_simp⟩) hSx ?_
                      try simp only [Act.put]
                      refine wpAnyH_take (i := 28) (v := .int .i64 (m : Int)) rfl (by kernel_rfl) (by kernel_rfl) (by kernel_rfl) (fun _ _ _ h => h) (Or.inl ⟨by rfl, fun w' hSw => by (try dsimp only at hSw); obtain ⟨⟨hs0, hs1, hs2⟩, ⟨hs3, hs4, hs5⟩, hs6, hs7, hs8⟩ := hSw; go_simp⟩) hSx ?_
                      try simp only [Act.put]
                      refine wpAnyH_take (i := 29) (v := .int .i64 (f2 : Int)) rfl (by kernel_rfl) (by kernel_rfl) (by kernel_rfl) (fun _ _ _ h => h) (Or.inl ⟨by rfl, fun w' hSw => by (try dsimp only at hSw); obtain ⟨⟨hs0, hs1, hs2⟩, ⟨hs3, hs4, hs5⟩, hs6, hs7, hs8⟩ := hSw; go_simp⟩) hSx ?_
                      try simp only [Act.put]
                      refine wpAnyH_take (i := 30) (v := .slice (some ⟨sq, so, none⟩) 3 sc) rfl (by kernel_rfl) (by kernel_rfl) (by kernel_rfl) (fun _ _ _ h => h) (Or.inl ⟨by rfl, fun w' hSw => by (try dsimp only at hSw); obtain ⟨⟨hs0, hs1, hs2⟩, ⟨hs3, hs4, hs5⟩, hs6, hs7, hs8⟩ := hSw; go_simp⟩) hSx ?_
                      try simp only [Act.put]
                      refine wpAnyH_take (i := 31) (v := .slice (some ⟨pb, 0, none⟩) 3 pc) rfl (by kernel_rfl) (by kernel_rfl) (by kernel_rfl) (fun _ _ _ h => h) (Or.inl ⟨by rfl, fun w' hSw => by (try dsimp only at hSw); obtain ⟨⟨hs0, hs1, hs2⟩, ⟨hs3, hs4, hs5⟩, hs6, hs7, hs8⟩ := hSw; go_simp⟩) hSx ?_
                      try simp only [Act.put]
                      refine wpAnyH_take (i := 32) (v := .pointer (some ⟨pb, 2, none⟩)) rfl (by kernel_rfl) (by kernel_rfl) (by kernel_rfl) (fun _ _ _ h => h) (Or.inl ⟨by rfl, fun w' hSw => by (try dsimp only at hSw); obtain ⟨⟨hs0, hs1, hs2⟩, ⟨hs3, hs4, hs5⟩, hs6, hs7, hs8⟩ := hSw; go_simp⟩) hSx ?_
                      try simp only [Act.put]
                      refine wpAnyH_take (i := 33) (v := .int .i64 (p2 : Int)) rfl (by kernel_rfl) (by kernel_rfl) (by kernel_rfl) (fun _ _ _ h => h) (Or.inl ⟨by rfl, fun w' hSw => by (try dsimp only at hSw); obtain ⟨⟨hs0, hs1, hs2⟩, ⟨hs3, hs4, hs5⟩, hs6, hs7, hs8⟩ := hSw; go_simp⟩) hSx ?_
                      try simp only [Act.put]
                      refine wpAnyH_take (i := 34) (v := .pointer (some ⟨sq, so + p2, none⟩)) rfl (by kernel_rfl) (by kernel_rfl) (by kernel_rfl) (fun _ _ _ h => h) (Or.inl ⟨by rfl, fun w' hSw => by (try dsimp only at hSw); obtain ⟨⟨hs0, hs1, hs2⟩, ⟨hs3, hs4, hs5⟩, hs6, hs7, hs8⟩ := hSw; go_simp⟩) hSx ?_
                      try simp only [Act.put]
                      refine wpAnyH_take (i := 35) (v := .int .i64 (g2 : Int)) rfl (by kernel_rfl) (by kernel_rfl) (by kernel_rfl) (fun _ _ _ h => h) (Or.inl ⟨by rfl, fun w' hSw => by (try dsimp only at hSw); obtain ⟨⟨hs0, hs1, hs2⟩, ⟨hs3, hs4, hs5⟩, hs6, hs7, hs8⟩ := hSw; go_simp⟩) hSx ?_
                      try simp only [Act.put]
                      refine wpAnyH_take (i := 36) (v := .int .i64 (z2 : Int)) rfl (by kernel_rfl) (by kernel_rfl) (by kernel_rfl) (fun _ _ _ h => h) (Or.inl ⟨by rfl, fun w' hSw => by (try dsimp only at hSw); obtain ⟨⟨hs0, hs1, hs2⟩, ⟨hs3, hs4, hs5⟩, hs6, hs7, hs8⟩ := hSw; go_simp⟩) hSx ?_
                      try simp only [Act.put]
                      refine wpAnyH_ready (rs := [37]) (by kernel_rfl) (by simp) ?_
                      refine AllReadyH.cons rfl (fun J hJ => ?_) AllReadyH.nil
                      go_simp
                      have hBa : Below (w.heap.size + 3) w0 (wp.drew.alloc (.cells #[.int .i64 (z0 : Int), .int .i64 (z1 : Int), .int .i64 (z2 : Int)] 3)) := hBp.drew.trans ((balloc wp.drew (.cells #[.int .i64 (z0 : Int), .int .i64 (z1 : Int), .int .i64 (z2 : Int)] 3)).mono hszp)
                      have hPa : (wp.drew.alloc (.cells #[.int .i64 (z0 : Int), .int .i64 (z1 : Int), .int .i64 (z2 : Int)] 3)).heap[pb]? = wp.heap[pb]? := (balloc wp.drew (.cells #[.int .i64 (z0 : Int), .int .i64 (z1 : Int), .int .i64 (z2 : Int)] 3)).block pb hpl
                      refine hJ.out _ _ (HS9.out _ hBa hPa) (fun hSx => ?_)
                      clear hJ J
                      try simp only [Act.put, List.setIfInBounds_toArray, List.set_cons_zero, List.set_cons_succ]
                      refine wpAnyH_ready (rs := [38]) (by kernel_rfl) (by simp) ?_
                      refine AllReadyH.cons rfl (fun J hJ => ?_) AllReadyH.nil
                      go_simp
                      have hBb : Below (w.heap.size + 3) w0 ((wp.drew.alloc (.cells #[.int .i64 (z0 : Int), .int .i64 (z1 : Int), .int .i64 (z2 : Int)] 3)).alloc (.cells #[.slice (some ⟨wp.heap.size, 0, none⟩) 3 3] 45)) := hBa.trans ((balloc (wp.drew.alloc (.cells #[.int .i64 (z0 : Int), .int .i64 (z1 : Int), .int .i64 (z2 : Int)] 3)) (.cells #[.slice (some ⟨wp.heap.size, 0, none⟩) 3 3] 45)).mono (by rw [World.size_alloc]; exact Nat.le_succ_of_le hszp))
                      have hPb : ((wp.drew.alloc (.cells #[.int .i64 (z0 : Int), .int .i64 (z1 : Int), .int .i64 (z2 : Int)] 3)).alloc (.cells #[.slice (some ⟨wp.heap.size, 0, none⟩) 3 3] 45)).heap[pb]? = wp.heap[pb]? := ((balloc (wp.drew.alloc (.cells #[.int .i64 (z0 : Int), .int .i64 (z1 : Int), .int .i64 (z2 : Int)] 3)) (.cells #[.slice (some ⟨wp.heap.size, 0, none⟩) 3 3] 45)).block pb (by rw [World.size_alloc]; exact Nat.lt_succ_of_lt hpl)).trans hPa
                      refine hJ.out _ _ (HS9.out _ hBb hPb) (fun hSx => ?_)
                      clear hJ J
                      try simp only [Act.put, List.setIfInBounds_toArray, List.set_cons_zero, List.set_cons_succ]
                      refine wpAnyH_ready (rs := [39]) (by kernel_rfl) (by simp) ?_
                      refine AllReadyH.cons rfl (fun J hJ => ?_) AllReadyH.nil
                      rw [if_pos (by rfl)]
                      obtain ⟨vals7, h17, h27⟩ := HOM.out
                      have H17 : Hid (wp.drew.ownsRow (w.heap.size + 3) 45 1 (.slice oa ln oc) LL.length vals7) := own_keep h17 fun b _ _ => rfl
                      have H27 : Hid (∀ (i : Nat) (u : Value) (l : List Nat), vals7[i]? = some u → LL[i]? = some l → ORow wp.drew (w.heap.size + 3) u l ∨ Sl w u (l.map Int.ofNat)) := fun i u l e1 e2 => (h27 i u l e1 e2).imp (fun h => own_keep h fun b _ _ => rfl) id
                      have h37 := H17.out
                      rw [HLN.out] at h37
                      refine wp_append_lies _ _ _ 22 (by rfl) (w.heap.size + 3) 45 i45 (.slice none 0 0) 1 24 undR ji3 jz0 jz1 jz2 rfl (by decide) (.slice oa ln oc) ln vals7 (by rfl) ((h37.alloc _).alloc _) ⟨wp.heap.size + 1, 0, none⟩ 1 1 [.slice (some ⟨wp.heap.size, 0, none⟩) 3 3] (by rfl) rfl ?n7 (fun u hu => by simp at hu; subst hu; rfl) (by decide) (by unfold maxLen; omega) (by omega) (Nat.le_trans (by have := HZ0.out; omega : (w.heap.size + 3) ≤ w0.heap.size) hBb.size) _ rfl ?_
                      case n7 =>
                        have hnw := news_row (wp.drew.alloc (.cells #[.int .i64 (z0 : Int), .int .i64 (z1 : Int), .int .i64 (z2 : Int)] 3)) (.slice (some ⟨wp.heap.size, 0, none⟩) 3 3)
                        rw [World.size_alloc] at hnw
                        exact hnw
                      intro g7 cap7 w7 hown7 hgr7 _ _
                      have hPg : w7.heap[pb]? = wp.heap[pb]? := (hgr7.block pb (by simp; omega) (fun e => by have := HNE.out pb e.symm; omega)).trans hPb
                      have hap := om_app3 (L := LL) (x := z0) (y := z1) (z := z2) H17.out H27.out HLN.out hszp hown7 hgr7 rfl rfl rfl
                      have hB7 : Below (w.heap.size + 3) w0 w7 := hBp.drew.trans hap.2
                      rw [← HUS.out] at hap
                      have hOn := hap.1
                      clear hap hown7 hgr7 h17 h27 h37 H17 H27 hBa hBb hPa hPb
                      refine hJ.out _ _ (HS9.out _ hB7 hPg) (fun hSx => ?_)
                      clear hJ J
                      try simp only [Act.put, List.setIfInBounds_toArray]
                      refine wpAnyH_take (i := 40) (v := .slice (some ⟨g7, 0, none⟩) (ln + 1) cap7) rfl (by kernel_rfl) (by kernel_rfl) (by kernel_rfl) (fun _ _ _ h => h) (Or.inl ⟨by rfl, fun w' hSw => by (try dsimp only at hSw); obtain ⟨⟨hs0, hs1, hs2⟩, ⟨hs3, hs4, hs5⟩, hs6, hs7, hs8⟩ := hSw; go_simp⟩) hSx ?_
                      try simp only [Act.put]
                      refine wpAnyH_done (by kernel_rfl) ?_ _
                      refine NoPanic.normal ?_
                      clear hSx
                      clear HOM
                      go_wp2
                      go_roundw
                      case rel => exact ⟨k + 1, by go_num, by omega, hOn, hB7⟩
                      case measure => simp [intOf]; omega
                    · have hdk : decide ((k : Int) < 6) = false := by simp; omega
                      obtain rfl : k = 6 := by omega
                      have HOX : Hid (OM w wr (w.heap.size + 3) (.slice oa LL.length oc) (PP ++ q2c m a (C.take (j + 1)))) := by show OM _ _ _ _ _; rw [HJX.out, HLL.out]; exact hO
                      generalize LL.length = lyn at HOX hlen ⊢
                      clear hO
                      go_wp2
                      go_roundw
                      case rel => exact ⟨j + 1, by go_num, by omega, HOX.out, hB⟩
                      case measure => simp [intOf]; omega
                · have hdj2 : decide ((j : Int) < (nc : Int)) = false := by simp; omega
                  have hjn : nc = j := by omega
                  have HOX : Hid (OM w wr (w.heap.size + 3) (.slice oa Lj.length oc) (Lx ++ q2 m C (A.take (i + 1)))) := by show OM _ _ _ _ _; rw [HIX.out, hjn, HLj.out]; exact hO
                  generalize Lj.length = lyn at HOX ⊢
                  clear hO hLj hjn
                  go_wp2
                  go_roundw
                  case rel => exact ⟨i + 1, by go_num, by omega, HOX.out, hB⟩
                  case measure => simp [intOf]; omega
        · have hdj : decide ((i : Int) < (na : Int)) = false := by simp; omega
          have hin : na = i := by omega
          have hLM : Li = MD := by rw [← HLi.out, ← hin]; exact HEND.out
          subst hLM
          have HC : Hid (Calls Try.prog 28 #[.slice oa Li.length oc] wr fun e w' => ∃ x Z, e = .returned x ∧ Ordd Li Z ∧ OR w' wr.heap.size x Z ∧ Below wr.heap.size wr w') := HI.out wr _ (hO.rw (HBW.out wr hB)) (by omega)
          have HR : Hid (wr.heap[w.heap.size + 2]? = _) := hr
          have HBB : Hid (Below w.heap.size w wr) := HBW.out wr hB
          generalize Li.length = mdl at *
          clear hO hr hB
          go_wp2_with (go_at_call 28; refine HC.out.mono ?_; rintro e w2 ⟨x, Z, rfl, hS, hO, hb⟩; clear HC; have hlt2 : w.heap.size + 2 < wr.heap.size := (Array.getElem?_eq_some_iff.1 HR.out).1; have hr : w2.heap[w.heap.size + 2]? = _ := (hb.block _ hlt2).trans HR.out; obtain ⟨xa, xc, rfl⟩ := hO.cap; have H7 : Hid (_ ∧ _ ∧ _) := res_putO (p := (vm : Int)) hr (Below.next HBB.out hb) (by omega) (by omega) hO; have z0 := frozen_of_row _ _ 0 _ _ hr; have z1 := frozen_of_row _ _ 1 _ _ hr; have y0 := cell_of_row _ _ 0 _ _ _ hr; have y1 := cell_of_row _ _ 1 _ _ _ hr; have HSZ : Hid (Ordd Li Z) := hS; generalize Z.length = zl at *; clear hr hb hO HR hlt2 hS k0 k1 k2 k3)
          exact post_d2 4 5 rfl rfl H7.out.1 rfl rfl ⟨_, Z, rfl, HSZ.out, H7.out.2.1, H7.out.2.2⟩

end Go.Proofs.Ytdeofjmgjhfkcaa
