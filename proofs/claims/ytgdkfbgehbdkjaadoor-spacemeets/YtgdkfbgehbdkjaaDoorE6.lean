/- The document's NormalTo, walked. -/
import Derived.Test.YtgdkfbgehbdkjaaDoorE4
/- The document's Span, walked. -/
namespace Go.Proofs.YtgdkfbgehbdkjaaDoor
open Go.RowKit

theorem rows_at {w : World} {u : Value} {S : List (List Nat)} {q n : Nat} (hu : Rw w u (toZ S)) (hS : Rws q n S) (h1 : 1 ≤ n) : ∃ ua uc, u = .slice ua S.length uc ∧ ∀ i, i < S.length → ∃ r b off rb ro rc, S[i]? = some r ∧ Vc q n r ∧ ua = some ⟨b, off, none⟩ ∧ ∀ W, Below w.heap.size w W → W.cell? ⟨b, off + i, none⟩ = some (.slice (some ⟨rb, ro, none⟩) n rc) ∧ ∀ k, k < n → W.cell? ⟨rb, ro + k, none⟩ = some (.int .i64 (r.getD k 0 : Int)) := by
  obtain ⟨ua, uc, rfl, h⟩ := hu
  refine ⟨ua, uc, by simp [toZ], fun i hi => ?_⟩
  have hm := hS _ (List.getElem_mem hi)
  obtain ⟨b, off, x, e, hc, hs⟩ := h i (S[i].map Int.ofNat) (by simp [toZ, hi])
  obtain ⟨rb, ro, rc, rfl, hrb, hrc⟩ := hs.form (by rw [List.length_map, hm.len]) h1
  refine ⟨S[i], b, off, rb, ro, rc, by simp, hm, e, fun W bW => ⟨(bW.cell (p := ⟨b, off + i, none⟩) (block_lt_of_cell hc)).trans hc, fun k hk => ?_⟩⟩
  rw [bW.cell (p := ⟨rb, ro + k, none⟩) hrb, hrc k hk]
  simp [List.getD_eq_getElem?_getD, show k < S[i].length by rw [hm.len]; exact hk]
theorem own_newT (w : World) (n : Nat) : OwnB (w.alloc (.cells ((madeCells #[.bool false] n).setIfInBounds 0 (.bool true)) 4)) w.heap.size n (fun i => if i = 0 then true else false) := by
  obtain ⟨c, h, hs, hc⟩ := own_newB w n
  refine ⟨_, heap_alloc_new w _, by rw [Array.size_setIfInBounds, size_madeCells], fun j hj => ?_⟩
  rw [heap_alloc_new] at h
  obtain rfl : madeCells #[.bool false] n = c := by simpa using h
  rw [Array.getElem?_setIfInBounds]
  by_cases e : 0 = j
  · subst e; rw [if_pos rfl, if_pos (by omega)]; rfl
  · rw [if_neg e, hc j hj]; simp only [if_neg (show ¬ j = 0 by omega)]
set_option maxRecDepth 100000 in
set_option maxHeartbeats 8000000 in
theorem Span_any (P K n : Nat) (l : List Int) (S : List (List Nat)) (v u : Value) (w : World) (hF : Fld P K l v w) (hu : Rw w u (toZ S)) (hS : Rws (P ^ K) n S) (h1 : 1 ≤ n) (hn : n ≤ 6) (hf : (P ^ K) ^ n ≤ 4096) (hm : S.length ≤ 99) :
    Calls Tryd.prog 13 #[.agg #[.int .i64 (P : Int), .int .i64 (K : Int), v], .int .i64 (n : Int), u] w fun e w' => ∃ g V, e = .returned (.slice (some ⟨g, 0, none⟩) ((P ^ K) ^ n) ((P ^ K) ^ n)) ∧ OwnB w' g ((P ^ K) ^ n) V ∧ (∀ c, c < (P ^ K) ^ n → (V c = true ↔ Spn (P ^ K) (adF P K) (muF P K l) n S (opn (P ^ K) n c))) ∧ Below w.heap.size w w' := by
  have hfq := hF.fqr
  have hbx := balloc w (.cells #[.int .i64 (P : Int), .int .i64 (K : Int), v] 24)
  have HX := fl_box (P : Int) (K : Int) v w
  obtain ⟨i3, hi3, hz0, hz1, hz2⟩ := info3
  have HI3 : Hid (Tryd.prog.info? 3 = some i3 ∧ i3.zero = some (.int .i64 0) ∧ i3.size = 1 ∧ i3.bytes = 8) := ⟨hi3, hz0, hz1, hz2⟩
  clear hi3 hz0 hz1 hz2
  have HTim : Hid (∀ W, Below w.heap.size w W → ∀ a b, a < P ^ K → b < P ^ K → ∀ s, Hid (muF P K l a b = s) → Calls Tryd.prog 31 #[.agg #[.int .i64 (P : Int), .int .i64 (K : Int), v], .int .i64 (a : Int), .int .i64 (b : Int)] W fun e w' => e = .returned (.int .i64 (s : Int)) ∧ Below W.heap.size W w') := fun W b x y hx hy s hs => by
    have h := Fd.TimesG P K x y l v W (hF.sl.below b) hF.good hx hy
    rw [show Fd.mulQ P K (Fd.monL l) x y = s from hs.out] at h
    exact h
  have HAdd : Hid (∀ W, Below w.heap.size w W → ∀ (r : List Nat) (vv : Value) (x a : Nat), Vc (P ^ K) n r → x < P ^ K → a < (P ^ K) ^ n → Sl W vv ((ofF n fun i => muF P K l x (r.getD i 0)).map Int.ofNat) → ∀ z, Hid (nxC (P ^ K) n (adF P K) (muF P K l) r x a = z) → Calls Tryd.prog 32 #[.agg #[.int .i64 (P : Int), .int .i64 (K : Int), v], .int .i64 (n : Int), .int .i64 (a : Int), vv] W fun e w' => e = .returned (.int .i64 (z : Int)) ∧ Below W.heap.size W w') := fun W b r vv x a hr hx ha hs z hz =>
    added_any P K n a l (smV (muF P K l) n x r) v vv W (hF.below b) hs (smV_vc hfq hx hr) h1 hn hf ha z hz
  obtain ⟨ad, Had⟩ : ∃ ad, Hid (adF P K = ad) := ⟨_, rfl⟩
  obtain ⟨mu, Hmu⟩ : ∃ mu, Hid (muF P K l = mu) := ⟨_, rfl⟩
  rw [Had.out, Hmu.out] at hfq HAdd ⊢
  rw [Hmu.out] at HTim
  obtain ⟨q, Hq⟩ : ∃ q, Hid (P ^ K = q) := ⟨_, rfl⟩
  have CS := fun W => hF.size Hq W
  have hq64 : q ≤ 64 := by rw [← Hq.out]; exact hF.good.le64
  rw [Hq.out] at hfq hS hf HTim HAdd ⊢
  have hq1 : 1 < q := hfq.one
  have HG : Hid (∀ i, q ^ (i + 1) = q ^ i * q) := fun i => Nat.pow_succ q i
  have HUp : Hid (∀ i, i ≤ n → q ^ i ≤ 4096) := fun i hi => Nat.le_trans (Nat.pow_le_pow_right (show 0 < q by omega) hi) hf
  have H0 : Hid (q ^ 0 = 1) := Nat.pow_zero q
  have hA1 : 1 ≤ q ^ n := Nat.pow_pos (by omega)
  -- the pure part
  have HSt : Hid (OutS q n ad mu S 0 [0] (fun i => if i = 0 then true else false)) := outS_start hfq S
  have HMi : Hid (∀ i r L V, S[i]? = some r → Vc q n r → OutS q n ad mu S i L V → MidS q n ad mu S i r L 1 0 L V) := fun i r L V hr hv k => k.mid hfq hr hv
  have HDo : Hid (∀ i r L0 L V, S[i]? = some r → Vc q n r → MidS q n ad mu S i r L0 q 0 L V → OutS q n ad mu S (i + 1) L V) := fun i r L0 L V hr hv k => k.done hfq hS hr hv
  have HNo : Hid (∀ i r L0 x j L V z, S[i]? = some r → Vc q n r → x < q → j < L0.length → MidS q n ad mu S i r L0 x j L V → nxC q n ad mu r x (L0.getD j 0) = z → V z = false → MidS q n ad mu S i r L0 x (j + 1) (L ++ [z]) (fun i => if i = z then true else V i)) := fun i r L0 x j L V z hr hv hx hj k hz hV => k.no hfq hS hr hv hx hj hz hV
  have HNl : Hid (∀ r x a, Vc q n r → x < q → nxC q n ad mu r x a < q ^ n) := fun r x a hr hx => nxC_lt hfq hr hx a
  have HML : Hid (∀ x r k, x < q → Vc q n r → mu x (r.getD k 0) < q ∧ r.getD k 0 < q) := fun x r k hx hr => ⟨hfq.mu_lt _ _ hx (hr.at hfq.pos k), hr.at hfq.pos k⟩
  have HEnd : Hid (∀ L V, OutS q n ad mu S S.length L V → ∀ c, c < q ^ n → (V c = true ↔ Spn q ad mu n S (opn q n c))) := fun L V k c hc => by
    unfold OutS at k
    rw [List.take_length] at k
    rw [k.1.mrk c hc]
    exact ⟨fun h => k.1.is c h, fun h => k.2 c hc h⟩
  have HLe : Hid (∀ i L V, OutS q n ad mu S i L V → L.length ≤ q ^ n) := fun i L V k => k.1.len
  have HLe2 : Hid (∀ i r L0 x j L V, MidS q n ad mu S i r L0 x j L V → L.length ≤ q ^ n) := fun i r L0 x j L V k => k.k.len
  have HAt2 : Hid (∀ i r L0 x j L V h, MidS q n ad mu S i r L0 x j L V → h < L0.length → L.getD h 0 = L0.getD h 0 ∧ L0.getD h 0 < q ^ n ∧ h < L.length) := fun i r L0 x j L V h k hh => k.at hh
  obtain ⟨ua, uc, rfl, hrow⟩ := rows_at hu hS h1
  have HRow : Hid _ := hrow
  obtain ⟨fa, fn, fc, rfl⟩ : ∃ fa fn fc, v = .slice fa fn fc := by obtain ⟨a, c, e, _⟩ := hF.sl; exact ⟨a, _, c, e⟩
  obtain ⟨m, Hm⟩ : ∃ m, Hid (S.length = m) := ⟨_, rfl⟩
  rw [Hm.out] at hm HRow HEnd ⊢
  obtain ⟨A, HA⟩ : ∃ A, Hid (q ^ n = A) := ⟨_, rfl⟩
  rw [HA.out] at hf hA1 HAdd HNl HEnd HLe HLe2 HAt2 ⊢
  obtain ⟨w0, Hw0⟩ : ∃ w0, Hid (w.alloc (.cells #[.int .i64 (P : Int), .int .i64 (K : Int), .slice fa fn fc] 24) = w0) := ⟨_, rfl⟩
  obtain ⟨x0, x1, x2⟩ := HX _ (Below.refl _ _)
  have HX2 : Hid (∀ W, Below w0.heap.size w0 W → (W.cell? ⟨w.heap.size, 0, none⟩ = some (.int .i64 (P : Int)) ∧ W.cell? ⟨w.heap.size, 1, none⟩ = some (.int .i64 (K : Int)) ∧ W.cell? ⟨w.heap.size, 2, none⟩ = some (.slice fa fn fc))) := by rw [← Hw0.out]; exact HX
  have HB0 : Hid (Below w.heap.size w w0) := by rw [← Hw0.out]; exact hbx
  have hmk := run_makeB A (by omega)
  obtain ⟨f, Hf⟩ : ∃ f : Nat → Nat, Hid (∀ i, q ^ i = f i) := ⟨fun i => q ^ i, fun i => rfl⟩
  have HAf : Hid (f n = A) := by show _ = _; rw [← Hf.out]; exact HA.out
  simp only [Hf.out] at HG HUp H0
  clear hF HX hfq hu hS hrow hbx Hf Hm
  go_enter Tryd.func13, Tryd.ntmps13
  go_wp2_with (go_at_call 25; rw [Hw0.out]; refine (CS _).mono ?_; rintro e w1 ⟨rfl, b1⟩; clear CS)
  clear x0 x1 x2
  go_loopw [8, 9] (fun av iv wr => ∃ i y : Nat, iv = .int .i64 (i : Int) ∧ i ≤ n ∧ av = .int .i64 (y : Int) ∧ Hid (f i = y) ∧ wr = w1) (fun _ iv _ => (n - intOf iv).toNat)
  case atStart => exact ⟨0, 1, rfl, by omega, rfl, H0, rfl⟩
  case round =>
    obtain ⟨i, y, rfl, hi, rfl, Hy, hw⟩ := hrel
    replace hw := hw.symm
    subst hw
    by_cases hlt : i < n
    · have hdi : decide ((i : Int) < (n : Int)) = true := by simp; omega
      have hii : (i : Int) < (n : Int) := by omega
      obtain ⟨y2, Hy2⟩ : ∃ y2, Hid (y * q = y2) := ⟨_, rfl⟩
      have hmul : (y : Int) * (q : Int) = (y2 : Int) := by rw [← Hy2.out]; simp
      have hy4 := HUp.out i hi
      rw [Hy.out] at hy4
      have hb2 : y2 ≤ 4096 * 64 := by rw [← Hy2.out]; exact Nat.mul_le_mul hy4 hq64
      have HN : Hid (f (i + 1) = y2) := by show _ = _; rw [HG.out, Hy.out, Hy2.out]
      clear hmk
      go_wp2
      go_roundw
      case rel => exact ⟨i + 1, y2, by go_num, by omega, by go_num, HN, by first | rfl | trivial⟩
      case measure => simp [intOf]; omega
    · have hdi : decide ((i : Int) < (n : Int)) = false := by simp; omega
      have HYA : Hid (y = A) := by show _ = _; rw [← Hy.out, ← HAf.out, show i = n by omega]
      obtain rfl : y = A := HYA.out
      clear HYA Hy HAf HG HUp H0
      have c0 := (own_newB w1 y).cell (j := 0) (by omega)
      have f0 := (own_newB w1 y).frozen 0
      have hy0 : (0 : Int) < (y : Int) := by omega
      have hy0d : decide ((0 : Int) < (y : Int)) = true := by simp; omega
      have HW : Hid (SpW w0 ((w1.alloc (.cells ((madeCells #[.bool false] y).setIfInBounds 0 (.bool true)) 4)).alloc (.cells #[.int .i64 0] 3)) w1.heap.size y (w1.heap.size + 1) 1 1 [0] (fun i => if i = 0 then true else false)) := by
        have hs := b1.size
        refine ⟨(own_newT w1 y).below (balloc _ _), ?_, (b1.alloc hs _).alloc (by simp; omega) _, hs⟩
        refine ⟨by simp, .inr ⟨w1.heap.size + 1, 1, #[.int .i64 0], rfl, Nat.le_refl _, ?_, Nat.le_refl _, by unfold maxLen; omega, by simp, by simp⟩⟩
        have := heap_alloc_new (w1.alloc (.cells ((madeCells #[.bool false] y).setIfInBounds 0 (.bool true)) 4)) (.cells #[.int .i64 0] 3)
        simpa using this
      have HG1 : Hid (w0.heap.size ≤ w1.heap.size) := b1.size
      go_wp2
      clear c0 f0 hmk
      go_loopw [11, 12, 13, 14, 15, 16, 17, 18, 19] (fun lv iv _ _ _ _ _ _ _ wr => ∃ (i lg lm lc : Nat) (L : List Nat) (V : Nat → Bool), iv = .int .i64 (i : Int) ∧ i ≤ m ∧ lv = .slice (some ⟨lg, 0, none⟩) lm lc ∧ Hid (OutS q n ad mu S i L V) ∧ SpW w0 wr w1.heap.size y lg lm lc L V) (fun _ iv _ _ _ _ _ _ _ _ => (m - intOf iv).toNat)
      case atStart => exact ⟨0, w1.heap.size + 1, 1, 1, [0], _, rfl, by omega, by simp, HSt, by first | exact HW.out | simpa using HW.out⟩
      case round =>
        clear HW HSt b1
        obtain ⟨t, lg, lm, lc, L, V, rfl, ht, rfl, HO, HSW⟩ := hrel
        by_cases htm : t < m
        · have hdt : decide ((t : Int) < (m : Int)) = true := by simp; omega
          have hti : (t : Int) < (m : Int) := by omega
          obtain ⟨r, rob, off, rb, ro, rc, hrt, hvc, rfl, hcells⟩ := HRow.out t htm
          have HR : Hid (S[t]? = some r) := hrt
          have HV : Hid (Vc q n r) := hvc
          have HCe : Hid (∀ W, Below w0.heap.size w0 W → W.cell? ⟨rob, off + t, none⟩ = some (.slice (some ⟨rb, ro, none⟩) n rc) ∧ ∀ k, k < n → W.cell? ⟨rb, ro + k, none⟩ = some (.int .i64 (r.getD k 0 : Int))) := fun W hW => hcells W (Below.next HB0.out hW)
          have HM0 : Hid (MidS q n ad mu S t r L 1 0 L V) := HMi.out t r L V hrt hvc HO.out
          have hL0 : Hid (L.length = lm) := HSW.len
          have hlm : lm ≤ 4096 := by rw [← hL0.out]; exact Nat.le_trans (HLe.out t L V HO.out) hf
          clear hrt hvc hcells HO
          go_wp2
          go_loopw [11, 14, 15, 16, 17, 18, 19] (fun lv xv _ _ _ _ _ wr => ∃ (x lg2 lm2 lc2 : Nat) (L2 : List Nat) (V2 : Nat → Bool), xv = .int .i64 (x : Int) ∧ 1 ≤ x ∧ x ≤ q ∧ lv = .slice (some ⟨lg2, 0, none⟩) lm2 lc2 ∧ Hid (MidS q n ad mu S t r L x 0 L2 V2) ∧ SpW w0 wr w1.heap.size y lg2 lm2 lc2 L2 V2) (fun _ xv _ _ _ _ _ _ => (q - intOf xv).toNat)
          case atStart => exact ⟨1, lg, lm, lc, L, V, rfl, by omega, by omega, rfl, HM0, HSW⟩
          case round =>
            clear HM0 HSW
            obtain ⟨x, lg2, lm2, lc2, L2, V2, rfl, hx1, hxq, rfl, HM, HSW⟩ := hrel
            by_cases hxlt : x < q
            · have hdx : decide ((x : Int) < (q : Int)) = true := by simp; omega
              have hxi : (x : Int) < (q : Int) := by omega
              obtain ⟨wx, Hwx⟩ : ∃ wx, Hid (wx = wr) := ⟨_, rfl⟩
              have HSx : Hid (SpW w0 wx w1.heap.size y lg2 lm2 lc2 L2 V2) := by rw [Hwx.out]; exact HSW
              obtain ⟨gx, Hgx⟩ : ∃ gx, Hid (wx.heap.size = gx) := ⟨_, rfl⟩
              have Hst : Hid (Below gx wx wr) := by rw [← Hgx.out, Hwx.out]; exact Below.refl _ _
              have HBx : Hid (∀ W, Below gx wx W → Below w0.heap.size w0 W) := fun W b => Below.next HSx.out.b (by rw [Hgx.out]; exact b)
              clear HSW
              go_wp2
              go_loopw [15, 16, 17] (fun vv kv _ wr => ∃ k : Nat, kv = .int .i64 (k : Int) ∧ k ≤ n ∧ wr.ownsRow gx 3 1 vv k (((ofF k fun i => mu x (r.getD i 0)).map Int.ofNat).map (Value.int .i64)) ∧ Below gx wx wr) (fun _ kv _ _ => (n - intOf kv).toNat)
              case atStart => exact ⟨0, rfl, by omega, World.ownsRow_nil _ _ _ _, Hst.out⟩
              case round =>
                clear Hst
                obtain ⟨k, rfl, hk, hown, hB⟩ := hrel
                have hgs : gx ≤ wr.heap.size := by have := hB.size; rw [Hgx.out] at this; exact this
                have HN3 : Hid (∀ W, Below wr.heap.size wr W → Below gx wx W) := fun W b => by
                  have h := hB
                  rw [← Hgx.out] at h ⊢
                  exact Below.next h b
                by_cases hkn : k < n
                · have hdk : decide ((k : Int) < (n : Int)) = true := by simp; omega
                  have hki : (k : Int) < (n : Int) := by omega
                  have hBw := HBx.out wr hB
                  obtain ⟨ls, ly⟩ := HML.out x r k hxlt HV.out
                  have hS0 : Hid (∀ W, Below wr.heap.size wr W → (W.cell? ⟨w.heap.size, 0, none⟩ = some (.int .i64 (P : Int)) ∧ W.cell? ⟨w.heap.size, 1, none⟩ = some (.int .i64 (K : Int)) ∧ W.cell? ⟨w.heap.size, 2, none⟩ = some (.slice fa fn fc) ∧ W.cell? ⟨rob, off + t, none⟩ = some (.slice (some ⟨rb, ro, none⟩) n rc) ∧ W.cell? ⟨rb, ro + k, none⟩ = some (.int .i64 (r.getD k 0 : Int)))) := fun W hW => by
                    obtain ⟨y0, y1, y2⟩ := HX2.out W (Below.next hBw hW)
                    obtain ⟨k1, k2⟩ := HCe.out W (Below.next hBw hW)
                    exact ⟨y0, y1, y2, k1, k2 k hkn⟩
                  obtain ⟨yk, Hyk⟩ : ∃ yk, Hid (r.getD k 0 = yk) := ⟨_, rfl⟩
                  obtain ⟨s, Hs⟩ : ∃ s, Hid (mu x yk = s) := ⟨_, rfl⟩
                  have HS2 : Hid (mu x (r.getD k 0) = s) := by show _ = _; rw [Hyk.out, Hs.out]
                  rw [Hyk.out] at hS0 ly
                  rw [HS2.out] at ls
                  have CT := fun W (b : Below wr.heap.size wr W) => HTim.out W (Below.next HB0.out (Below.next hBw b)) x yk hxlt ly s Hs
                  have p1 : Below wr.heap.size wr wr := Below.refl _ _
                  have hS := hS0
                  clear hS0 hBw hB
                  go_wp2
                  refine wp_region_noPanic ?_
                  refine wp_region_held_drew (S := fun W => W.cell? ⟨w.heap.size, 0, none⟩ = some (.int .i64 (P : Int)) ∧ W.cell? ⟨w.heap.size, 1, none⟩ = some (.int .i64 (K : Int)) ∧ W.cell? ⟨w.heap.size, 2, none⟩ = some (.slice fa fn fc) ∧ W.cell? ⟨rob, off + t, none⟩ = some (.slice (some ⟨rb, ro, none⟩) n rc) ∧ W.cell? ⟨rb, ro + k, none⟩ = some (.int .i64 (yk : Int))) (by kernel_rfl) (hS.out _ p1.drew) (fun hSx => ?_)
                  refine wpAnyH_take (i := 0) (v := .agg #[.int .i64 (P : Int), .int .i64 (K : Int), .slice fa fn fc]) rfl (by kernel_rfl) (by kernel_rfl) (by kernel_rfl) (fun _ _ _ h => h) (Or.inl ⟨by rfl, fun w' hSw => by (try dsimp only at hSw); obtain ⟨hs0, hs1, hs2, hs3, hs4⟩ := hSw; go_simp⟩) hSx ?_
                  try simp only [Act.put, List.setIfInBounds_toArray]
                  refine wpAnyH_take (i := 1) (v := .int .i64 (x : Int)) rfl (by kernel_rfl) (by kernel_rfl) (by kernel_rfl) (fun _ _ _ h => h) (Or.inl ⟨by rfl, fun w' hSw => by (try dsimp only at hSw); obtain ⟨hs0, hs1, hs2, hs3, hs4⟩ := hSw; go_simp⟩) hSx ?_
                  try simp only [Act.put]
                  refine wpAnyH_take (i := 2) (v := .slice (some ⟨rob, off, none⟩) m uc) rfl (by kernel_rfl) (by kernel_rfl) (by kernel_rfl) (fun _ _ _ h => h) (Or.inl ⟨by rfl, fun w' hSw => by (try dsimp only at hSw); obtain ⟨hs0, hs1, hs2, hs3, hs4⟩ := hSw; go_simp⟩) hSx ?_
                  try simp only [Act.put]
                  refine wpAnyH_take (i := 3) (v := .int .i64 (t : Int)) rfl (by kernel_rfl) (by kernel_rfl) (by kernel_rfl) (fun _ _ _ h => h) (Or.inl ⟨by rfl, fun w' hSw => by (try dsimp only at hSw); obtain ⟨hs0, hs1, hs2, hs3, hs4⟩ := hSw; go_simp⟩) hSx ?_
                  try simp only [Act.put]
                  refine wpAnyH_take (i := 4) (v := .pointer (some ⟨rob, off + t, none⟩)) rfl (by kernel_rfl) (by kernel_rfl) (by kernel_rfl) (fun _ _ _ h => h) (Or.inl ⟨by rfl, fun w' hSw => by (try dsimp only at hSw); obtain ⟨hs0, hs1, hs2, hs3, hs4⟩ := hSw; go_simp⟩) hSx ?_
                  try simp only [Act.put]
                  refine wpAnyH_take (i := 5) (v := .slice (some ⟨rb, ro, none⟩) n rc) rfl (by kernel_rfl) (by kernel_rfl) (by kernel_rfl) (fun _ _ _ h => h) (Or.inl ⟨by rfl, fun w' hSw => by (try dsimp only at hSw); obtain ⟨hs0, hs1, hs2, hs3, hs4⟩ := hSw; go_simp⟩) hSx ?_
                  try simp only [Act.put]
                  refine wpAnyH_take (i := 6) (v := .int .i64 (k : Int)) rfl (by kernel_rfl) (by kernel_rfl) (by kernel_rfl) (fun _ _ _ h => h) (Or.inl ⟨by rfl, fun w' hSw => by (try dsimp only at hSw); obtain ⟨hs0, hs1, hs2, hs3, hs4⟩ := hSw; go_simp⟩) hSx ?_
                  try simp only [Act.put]
                  refine wpAnyH_take (i := 7) (v := .pointer (some ⟨rb, ro + k, none⟩)) rfl (by kernel_rfl) (by kernel_rfl) (by kernel_rfl) (fun _ _ _ h => h) (Or.inl ⟨by rfl, fun w' hSw => by (try dsimp only at hSw); obtain ⟨hs0, hs1, hs2, hs3, hs4⟩ := hSw; go_simp⟩) hSx ?_
                  try simp only [Act.put]
                  refine wpAnyH_take (i := 8) (v := .int .i64 (yk : Int)) rfl (by kernel_rfl) (by kernel_rfl) (by kernel_rfl) (fun _ _ _ h => h) (Or.inl ⟨by rfl, fun w' hSw => by (try dsimp only at hSw); obtain ⟨hs0, hs1, hs2, hs3, hs4⟩ := hSw; go_simp⟩) hSx ?_
                  try simp only [Act.put]
                  refine wpAnyH_ready (rs := [9]) (by kernel_rfl) (by simp) ?_
                  refine (AllReadyH.cons rfl (fun J hJ => ?_) AllReadyH.nil)
                  go_simp
                  refine (CT _ p1.drew).mono ?_
                  rintro e w3 ⟨rfl, bv1⟩
                  have p2 : Below wr.heap.size wr w3 := Below.next p1.drew bv1
                  go_wp2_with fail
                  refine hJ.out _ _ (hS.out _ p2) (fun hSx => ?_)
                  clear hJ J
                  try simp only [Act.put, List.setIfInBounds_toArray, List.set_cons_zero, List.set_cons_succ]
                  refine wpAnyH_ready (rs := [10]) (by kernel_rfl) (by simp) ?_
                  refine (AllReadyH.cons rfl (fun J hJ => ?_) AllReadyH.nil)
                  go_simp
                  refine hJ.out _ _ (hS.out _ p2) (fun hSx => ?_)
                  clear hJ J
                  try simp only [Act.put, List.setIfInBounds_toArray, List.set_cons_zero, List.set_cons_succ]
                  refine wpAnyH_done (by kernel_rfl) ?_ _
                  refine NoPanic.normal ?_
                  have hown3 := own_keep hown (fun b _ hb => p2.block b hb)
                  have hB3 := HN3.out w3 p2
                  have hgs3 : gx ≤ w3.heap.size := by have := p2.size; omega
                  clear hSx hS CT HN3 hown
                  go_wp2_with (first
                    | (at_builtin; refine wpList_append_own _ rfl _ _ 22 rfl gx 3 i3 (.int .i64 0) 1 8 und22 HI3.out.1 HI3.out.2.1 HI3.out.2.2.1 HI3.out.2.2.2 rfl (by decide) _ _ _ rfl (hown3.alloc _) ⟨w3.heap.size, 0, none⟩ 1 1 [.int .i64 (s : Int)] rfl rfl (fun j u hj => by (match j, hj with | 0, hj => simp at hj; subst hj; simp [Addr.add])) (fun u hu => by (simp at hu; subst hu; rfl)) (by (unfold maxLen; omega)) (by omega) (by (simp; omega)) ?_; intro v' w4 hown' hgrow _)
                    | go_in)
                  have hb4 : Below gx wx w4 := (hB3.alloc (by omega) _).grown hgrow (by simp; omega) (fun k hk => (hown3.lt k hk).1)
                  have hown4 : w4.ownsRow gx 3 1 v' (k + 1) (((ofF (k + 1) fun i => mu x (r.getD i 0)).map Int.ofNat).map (Value.int .i64)) := by
                    rw [ofF_snoc, List.map_append, List.map_append, HS2.out]
                    exact hown'
                  clear hown' hgrow hown3 hB3
                  go_roundw
                  case rel => exact ⟨k + 1, by go_num, by omega, hown4, hb4⟩
                  case measure => simp [intOf]; omega
                · have hdk : decide ((k : Int) < (n : Int)) = false := by simp; omega
                  obtain rfl : n = k := by omega
                  obtain ⟨vg, vc, rfl, hvg, hvl⟩ := hown.form (by omega)
                  have hv : Hid (VR wr vg n fun i => mu x (r.getD i 0)) := VR.of hown
                  have HSj : Hid (SpW w0 wr w1.heap.size y lg2 lm2 lc2 L2 V2) := HSx.out.below (by rw [Hgx.out]; exact hB)
                  have hlgx : lg2 < gx := by have := HSx.out.lt; rw [Hgx.out] at this; omega
                  have hGgx : w1.heap.size < gx := by have := HSx.out.own.lt; rw [Hgx.out] at this; omega
                  clear hown hB HSx HBx HN3 hgs
                  go_wp2
                  go_loopw [11, 18, 19] (fun lv jv _ wr => ∃ (j lg3 lm3 lc3 : Nat) (L3 : List Nat) (V3 : Nat → Bool), jv = .int .i64 (j : Int) ∧ j ≤ lm ∧ lv = .slice (some ⟨lg3, 0, none⟩) lm3 lc3 ∧ Hid (MidS q n ad mu S t r L x j L3 V3) ∧ Hid (VR wr vg n fun i => mu x (r.getD i 0)) ∧ lg3 ≠ vg ∧ SpW w0 wr w1.heap.size y lg3 lm3 lc3 L3 V3) (fun _ jv _ _ => (lm - intOf jv).toNat)
                  case atStart => exact ⟨0, lg2, lm2, lc2, L2, V2, rfl, by omega, rfl, HM, hv, by omega, HSj.out⟩
                  case round =>
                    clear HM hv HSj
                    obtain ⟨j, lg3, lm3, lc3, L3, V3, rfl, hj, rfl, HM3, HVR, hne, HSW3⟩ := hrel
                    by_cases hjl : j < lm
                    · have hdj : decide ((j : Int) < (lm : Int)) = true := by simp; omega
                      have hji : (j : Int) < (lm : Int) := by omega
                      have hjL : j < L.length := by rw [hL0.out]; exact hjl
                      obtain ⟨e1, e2, e3⟩ := HAt2.out t r L x j L3 V3 j HM3.out hjL
                      have hl3 := HSW3.len
                      rw [hl3] at e3
                      have h34 : lm3 ≤ 4096 := by rw [← hl3]; exact Nat.le_trans (HLe2.out t r L x j L3 V3 HM3.out) hf
                      have hj3 : (j : Int) < (lm3 : Int) := by omega
                      have c1 := HSW3.cell e3
                      rw [e1] at c1
                      obtain ⟨a, Ha⟩ : ∃ a, Hid (L.getD j 0 = a) := ⟨_, rfl⟩
                      rw [Ha.out] at c1 e2
                      obtain ⟨z, Hz⟩ : ∃ z, Hid (nxC q n ad mu r x a = z) := ⟨_, rfl⟩
                      have hzl : z < y := by rw [← Hz.out]; exact HNl.out r x a HV.out hxlt
                      have hzi : (z : Int) < (y : Int) := by omega
                      have CA := fun W (b : Below wr.heap.size wr W) => HAdd.out W (Below.next HB0.out (Below.next HSW3.b b)) r (.slice (some ⟨vg, 0, none⟩) n vc) x a HV.out hxlt e2 ((HVR.out.below b).sl vc) z Hz
                      have hS : Hid (∀ W, Below wr.heap.size wr W → (W.cell? ⟨w.heap.size, 0, none⟩ = some (.int .i64 (P : Int)) ∧ W.cell? ⟨w.heap.size, 1, none⟩ = some (.int .i64 (K : Int)) ∧ W.cell? ⟨w.heap.size, 2, none⟩ = some (.slice fa fn fc) ∧ W.cell? ⟨lg3, j, none⟩ = some (.int .i64 (a : Int)))) := fun W hW => by
                        obtain ⟨y0, y1, y2⟩ := HX2.out W (Below.next HSW3.b hW)
                        exact ⟨y0, y1, y2, (hW.cell (p := ⟨lg3, j, none⟩) HSW3.lt.2).trans c1⟩
                      have p1 : Below wr.heap.size wr wr := Below.refl _ _
                      have HS3 : Hid (SpW w0 wr w1.heap.size y lg3 lm3 lc3 L3 V3) := HSW3
                      clear HSW3 c1 e1 hl3
                      go_wp2
                      refine wp_region_noPanic ?_
                      refine wp_region_held_drew (S := fun W => W.cell? ⟨w.heap.size, 0, none⟩ = some (.int .i64 (P : Int)) ∧ W.cell? ⟨w.heap.size, 1, none⟩ = some (.int .i64 (K : Int)) ∧ W.cell? ⟨w.heap.size, 2, none⟩ = some (.slice fa fn fc) ∧ W.cell? ⟨lg3, j, none⟩ = some (.int .i64 (a : Int))) (by kernel_rfl) (hS.out _ p1.drew) (fun hSx => ?_)
                      refine wpAnyH_take (i := 0) (v := .agg #[.int .i64 (P : Int), .int .i64 (K : Int), .slice fa fn fc]) rfl (by kernel_rfl) (by kernel_rfl) (by kernel_rfl) (fun _ _ _ h => h) (Or.inl ⟨by rfl, fun w' hSw => by (try dsimp only at hSw); obtain ⟨hs0, hs1, hs2, hs3⟩ := hSw; go_simp⟩) hSx ?_
                      try simp only [Act.put, List.setIfInBounds_toArray]
                      refine wpAnyH_take (i := 1) (v := .int .i64 (n : Int)) rfl (by kernel_rfl) (by kernel_rfl) (by kernel_rfl) (fun _ _ _ h => h) (Or.inl ⟨by rfl, fun w' hSw => by (try dsimp only at hSw); obtain ⟨hs0, hs1, hs2, hs3⟩ := hSw; go_simp⟩) hSx ?_
                      try simp only [Act.put]
                      refine wpAnyH_take (i := 2) (v := .slice (some ⟨lg3, 0, none⟩) lm3 lc3) rfl (by kernel_rfl) (by kernel_rfl) (by kernel_rfl) (fun _ _ _ h => h) (Or.inl ⟨by rfl, fun w' hSw => by (try dsimp only at hSw); obtain ⟨hs0, hs1, hs2, hs3⟩ := hSw; go_simp⟩) hSx ?_
                      try simp only [Act.put]
                      refine wpAnyH_take (i := 3) (v := .int .i64 (j : Int)) rfl (by kernel_rfl) (by kernel_rfl) (by kernel_rfl) (fun _ _ _ h => h) (Or.inl ⟨by rfl, fun w' hSw => by (try dsimp only at hSw); obtain ⟨hs0, hs1, hs2, hs3⟩ := hSw; go_simp⟩) hSx ?_
                      try simp only [Act.put]
                      refine wpAnyH_take (i := 4) (v := .pointer (some ⟨lg3, j, none⟩)) rfl (by kernel_rfl) (by kernel_rfl) (by kernel_rfl) (fun _ _ _ h => h) (Or.inl ⟨by rfl, fun w' hSw => by (try dsimp only at hSw); obtain ⟨hs0, hs1, hs2, hs3⟩ := hSw; go_simp⟩) hSx ?_
                      try simp only [Act.put]
                      refine wpAnyH_take (i := 5) (v := .int .i64 (a : Int)) rfl (by kernel_rfl) (by kernel_rfl) (by kernel_rfl) (fun _ _ _ h => h) (Or.inl ⟨by rfl, fun w' hSw => by (try dsimp only at hSw); obtain ⟨hs0, hs1, hs2, hs3⟩ := hSw; go_simp⟩) hSx ?_
                      try simp only [Act.put]
                      refine wpAnyH_take (i := 6) (v := .slice (some ⟨vg, 0, none⟩) n vc) rfl (by kernel_rfl) (by kernel_rfl) (by kernel_rfl) (fun _ _ _ h => h) (Or.inl ⟨by rfl, fun w' hSw => by (try dsimp only at hSw); obtain ⟨hs0, hs1, hs2, hs3⟩ := hSw; go_simp⟩) hSx ?_
                      try simp only [Act.put]
                      refine wpAnyH_ready (rs := [7]) (by kernel_rfl) (by simp) ?_
                      refine (AllReadyH.cons rfl (fun J hJ => ?_) AllReadyH.nil)
                      go_simp
                      refine (CA _ p1.drew).mono ?_
                      rintro e w3 ⟨rfl, bv1⟩
                      have p2 : Below wr.heap.size wr w3 := Below.next p1.drew bv1
                      go_wp2_with fail
                      refine hJ.out _ _ (hS.out _ p2) (fun hSx => ?_)
                      clear hJ J
                      try simp only [Act.put, List.setIfInBounds_toArray, List.set_cons_zero, List.set_cons_succ]
                      refine wpAnyH_ready (rs := [8]) (by kernel_rfl) (by simp) ?_
                      refine (AllReadyH.cons rfl (fun J hJ => ?_) AllReadyH.nil)
                      go_simp
                      refine hJ.out _ _ (hS.out _ p2) (fun hSx => ?_)
                      clear hJ J
                      try simp only [Act.put, List.setIfInBounds_toArray, List.set_cons_zero, List.set_cons_succ]
                      refine wpAnyH_done (by kernel_rfl) ?_ _
                      refine NoPanic.normal ?_
                      have HW3 : Hid (SpW w0 w3 w1.heap.size y lg3 lm3 lc3 L3 V3) := HS3.out.below p2
                      have HV3 : Hid (VR w3 vg n fun i => mu x (r.getD i 0)) := HVR.out.below p2
                      have c2 := HW3.out.own.cell hzl
                      have f2 := HW3.out.own.frozen z
                      have hzz : nxC q n ad mu r x (L.getD j 0) = z := by rw [Ha.out, Hz.out]
                      have HZZ : Hid (nxC q n ad mu r x (L.getD j 0) = z) := hzz
                      clear hSx hS CA hzz HS3 HVR
                      by_cases hb : V3 z = true
                      · have HM4 : Hid (MidS q n ad mu S t r L x (j + 1) L3 V3) := HM3.out.yes HZZ.out (by rw [HA.out]; exact hzl) hb
                        rw [hb] at c2
                        clear hb
                        go_wp2
                        go_roundw
                        case rel => exact ⟨j + 1, lg3, lm3, lc3, L3, V3, by go_num, by omega, rfl, HM4, HV3, hne, HW3.out⟩
                        case measure => simp [intOf]; omega
                      · have hbf : V3 z = false := by simpa using hb
                        have HM4 := HNo.out t r L x j L3 V3 z HR.out HV.out hxlt hjL HM3.out HZZ.out hbf
                        have HM5 : Hid (MidS q n ad mu S t r L x (j + 1) (L3 ++ [z]) (fun i => if i = z then true else V3 i)) := HM4
                        rw [hbf] at c2
                        have HMk : Hid (SpW w0 (w3.setCell ⟨w1.heap.size, z, none⟩ (.bool true)) w1.heap.size y lg3 lm3 lc3 L3 (fun i => if i = z then true else V3 i)) := HW3.out.mark z
                        have HVm : Hid (VR (w3.setCell ⟨w1.heap.size, z, none⟩ (.bool true)) vg n fun i => mu x (r.getD i 0)) := HV3.out.setO _ _ (by show vg ≠ w1.heap.size; omega)
                        have hgs3 : w1.heap.size + 1 ≤ w3.heap.size := HW3.out.own.lt
                        have hvg3 : vg < w3.heap.size := HV3.out.1
                        have HNw : Hid (∀ (j : Nat) (u : Value), [Value.int .i64 (z : Int)][j]? = some u → ((w3.setCell ⟨w1.heap.size, z, none⟩ (.bool true)).alloc (.cells #[.int .i64 (z : Int)] 3)).cell? ((⟨w3.heap.size, 0, none⟩ : Addr).add j) = some u) := fun j u hj => by
                          have h := World.news_of_block (heap_alloc_new (w3.setCell ⟨w1.heap.size, z, none⟩ (.bool true)) (.cells #[.int .i64 (z : Int)] 3)) j u hj
                          simpa using h
                        clear hb hbf HM4
                        go_wp2_with (first
                          | (at_builtin; refine wpList_append_lies _ rfl _ _ 22 rfl (w1.heap.size + 1) 3 i3 (.int .i64 0) 1 8 und22 HI3.out.1 HI3.out.2.1 HI3.out.2.2.1 HI3.out.2.2.2 rfl (by decide) (.slice (some ⟨lg3, 0, none⟩) lm3 lc3) lm3 _ rfl (HMk.out.row.alloc _) ⟨w3.heap.size, 0, none⟩ 1 1 [.int .i64 (z : Int)] rfl rfl HNw.out (fun u hu => by (simp at hu; subst hu; rfl)) (by decide) (by (unfold maxLen; omega)) (by omega) (by (simp; omega)) (w3.heap.size + 1) (by simp) ?_; intro lg4 lc4 w6 hown' hgrow hl4 hlt4)
                          | go_in)
                        have HSf : SpW w0 w6 w1.heap.size y lg4 (lm3 + 1) lc4 (L3 ++ [z]) (fun i => if i = z then true else V3 i) := HMk.out.grow hgrow hown'
                        have HVf : Hid (VR w6 vg n fun i => mu x (r.getD i 0)) := by
                          refine (HVm.out.below (balloc _ (.cells #[.int .i64 (z : Int)] 3))).keep hgrow.size (hgrow.block vg (by simp; omega) ?_)
                          intro e
                          have : vg = lg3 := by simpa [Value.ownBlock] using e
                          omega
                        have hne4 : lg4 ≠ vg := by
                          rcases hl4 with e | e
                          · have : lg3 = lg4 := by simpa [Value.ownBlock] using e
                            omega
                          · omega
                        clear hown' hgrow hl4 HMk HVm HW3 HV3
                        go_roundw
                        case rel => exact ⟨j + 1, lg4, lm3 + 1, lc4, L3 ++ [z], _, by go_num, by omega, rfl, HM5, HVf, hne4, HSf⟩
                        case measure => simp [intOf]; omega
                    · have hdj : decide ((j : Int) < (lm : Int)) = false := by simp; omega
                      have hjn : ¬ j < lm := hjl
                      have HM6 : Hid (MidS q n ad mu S t r L (x + 1) 0 L3 V3) := HM3.out.row (by rw [hL0.out]; omega)
                      go_wp2
                      go_roundw
                      case rel => exact ⟨x + 1, lg3, lm3, lc3, L3, V3, by go_num, by omega, by omega, rfl, HM6, HSW3⟩
                      case measure => simp [intOf]; omega
            · have hdx : decide ((x : Int) < (q : Int)) = false := by simp; omega
              obtain rfl : q = x := by omega
              have HO2 : Hid (OutS q n ad mu S (t + 1) L2 V2) := HDo.out t r L L2 V2 HR.out HV.out HM.out
              go_wp2
              go_roundw
              case rel => exact ⟨t + 1, lg2, lm2, lc2, L2, V2, by go_num, by omega, rfl, HO2, HSW⟩
              case measure => simp [intOf]; omega
        · have hdt : decide ((t : Int) < (m : Int)) = false := by simp; omega
          have htn : ¬ t < m := by omega
          have HE := HEnd.out L V (by rw [show m = t by omega]; exact HO.out)
          have HE2 : Hid (∀ c, c < y → (V c = true ↔ Spn q ad mu n S (opn q n c))) := HE
          have hown := HSW.own
          have hBB := Below.next HB0.out HSW.b
          clear HE HSW
          go_wp2
          go_ret
          exact ⟨w1.heap.size, V, rfl, hown, HE2.out, hBB⟩
end Go.Proofs.YtgdkfbgehbdkjaaDoor

namespace Go.Proofs.YtgdkfbgehbdkjaaDoor
open Go.RowKit

/-- Is it normal to the first i rows? -/
def nrB (ad mu : Nat → Nat → Nat) (n : Nat) (S : List (List Nat)) (v : List Nat) (i : Nat) : Bool := (S.take i).all fun r => dotV ad mu v r n == 0
theorem nrB_next {ad mu : Nat → Nat → Nat} {n : Nat} {S : List (List Nat)} {v : List Nat} {i : Nat} {r : List Nat} (h : S[i]? = some r) : nrB ad mu n S v (i + 1) = (nrB ad mu n S v i && (dotV ad mu v r n == 0)) := by
  unfold nrB
  rw [take_snoc h, List.all_append]
  simp
theorem nrB_iff {q n : Nat} {ad mu : Nat → Nat → Nat} {S : List (List Nat)} {v : List Nat} (hv : Vc q n v) : nrB ad mu n S v S.length = true ↔ Nrm q ad mu n S v := by
  unfold nrB Nrm
  rw [List.take_length]
  simp [hv]
set_option maxRecDepth 100000 in
set_option maxHeartbeats 8000000 in
theorem NormalTo_any (P K n : Nat) (l : List Int) (S : List (List Nat)) (v u : Value) (w : World) (hF : Fld P K l v w) (hu : Rw w u (toZ S)) (hS : Rws (P ^ K) n S) (h1 : 1 ≤ n) (hn : n ≤ 6) (hf : (P ^ K) ^ n ≤ 4096) (hm : S.length ≤ 99) :
    Calls Tryd.prog 16 #[.agg #[.int .i64 (P : Int), .int .i64 (K : Int), v], .int .i64 (n : Int), u] w fun e w' => ∃ g V, e = .returned (.slice (some ⟨g, 0, none⟩) ((P ^ K) ^ n) ((P ^ K) ^ n)) ∧ OwnB w' g ((P ^ K) ^ n) V ∧ (∀ c, c < (P ^ K) ^ n → (V c = true ↔ Nrm (P ^ K) (adF P K) (muF P K l) n S (opn (P ^ K) n c))) ∧ Below w.heap.size w w' := by
  have hfq := hF.fqr
  have hbx := balloc w (.cells #[.int .i64 (P : Int), .int .i64 (K : Int), v] 24)
  have HX := fl_box (P : Int) (K : Int) v w
  have HTim : Hid (∀ W, Below w.heap.size w W → ∀ a b, a < P ^ K → b < P ^ K → ∀ s, Hid (muF P K l a b = s) → Calls Tryd.prog 31 #[.agg #[.int .i64 (P : Int), .int .i64 (K : Int), v], .int .i64 (a : Int), .int .i64 (b : Int)] W fun e w' => e = .returned (.int .i64 (s : Int)) ∧ Below W.heap.size W w') := fun W b x y hx hy s hs => by
    have h := Fd.TimesG P K x y l v W (hF.sl.below b) hF.good hx hy
    rw [show Fd.mulQ P K (Fd.monL l) x y = s from hs.out] at h
    exact h
  have HSum : Hid (∀ W, Below w.heap.size w W → ∀ a b, a < P ^ K → b < P ^ K → ∀ s, Hid (adF P K a b = s) → Calls Tryd.prog 36 #[.agg #[.int .i64 (P : Int), .int .i64 (K : Int), v], .int .i64 (a : Int), .int .i64 (b : Int)] W fun e w' => e = .returned (.int .i64 (s : Int)) ∧ Below W.heap.size W w') := fun W b x y hx hy s hs => by
    have h := Fd.SumG P K x y l v W (hF.sl.below b) hF.good hx hy
    rw [show Fd.addQ P K x y = s from hs.out] at h
    exact h
  have HOpn : Hid (∀ W, Below w.heap.size w W → ∀ c, c < (P ^ K) ^ n → Calls Tryd.prog 33 #[.agg #[.int .i64 (P : Int), .int .i64 (K : Int), v], .int .i64 (n : Int), .int .i64 (c : Int)] W fun e w' => ∃ g, e = .returned (.slice (some ⟨g, 0, none⟩) n n) ∧ W.heap.size ≤ g ∧ OwnN w' g n (fun i => (opn (P ^ K) n c).getD i 0) ∧ Below W.heap.size W w') := fun W b c hc => Open_any P K n c l v W (hF.below b) hn (by omega)
  obtain ⟨ad, Had⟩ : ∃ ad, Hid (adF P K = ad) := ⟨_, rfl⟩
  obtain ⟨mu, Hmu⟩ : ∃ mu, Hid (muF P K l = mu) := ⟨_, rfl⟩
  rw [Had.out, Hmu.out] at hfq ⊢
  rw [Hmu.out] at HTim
  rw [Had.out] at HSum
  obtain ⟨q, Hq⟩ : ∃ q, Hid (P ^ K = q) := ⟨_, rfl⟩
  have CS := fun W => hF.size Hq W
  have hq64 : q ≤ 64 := by rw [← Hq.out]; exact hF.good.le64
  rw [Hq.out] at hfq hS hf HTim HSum HOpn ⊢
  have hq1 : 1 < q := hfq.one
  have HG : Hid (∀ i, q ^ (i + 1) = q ^ i * q) := fun i => Nat.pow_succ q i
  have HUp : Hid (∀ i, i ≤ n → q ^ i ≤ 4096) := fun i hi => Nat.le_trans (Nat.pow_le_pow_right (show 0 < q by omega) hi) hf
  have H0 : Hid (q ^ 0 = 1) := Nat.pow_zero q
  have HDl : Hid (∀ c r k, Vc q n r → dotV ad mu (opn q n c) r k < q ∧ (opn q n c).getD k 0 < q ∧ r.getD k 0 < q ∧ mu ((opn q n c).getD k 0) (r.getD k 0) < q) := fun c r k hr =>
    have ho := opn_vc hfq.pos n c
    ⟨dotV_lt hfq ho hr k, ho.at hfq.pos k, hr.at hfq.pos k, hfq.mu_lt _ _ (ho.at hfq.pos k) (hr.at hfq.pos k)⟩
  have HDn : Hid (∀ c r k, dotV ad mu (opn q n c) r (k + 1) = ad (dotV ad mu (opn q n c) r k) (mu ((opn q n c).getD k 0) (r.getD k 0))) := fun c r k => rfl
  have HD0 : Hid (∀ c r, dotV ad mu (opn q n c) r 0 = 0) := fun c r => rfl
  have HNx : Hid (∀ c i r, S[i]? = some r → nrB ad mu n S (opn q n c) (i + 1) = (nrB ad mu n S (opn q n c) i && (dotV ad mu (opn q n c) r n == 0))) := fun c i r h => nrB_next h
  have HN0 : Hid (∀ c, nrB ad mu n S (opn q n c) 0 = true) := fun c => rfl
  have HEnd : Hid (∀ c, (nrB ad mu n S (opn q n c) S.length = true ↔ Nrm q ad mu n S (opn q n c))) := fun c => nrB_iff (opn_vc hfq.pos n c)
  obtain ⟨ua, uc, rfl, hrow⟩ := rows_at hu hS h1
  have HRow : Hid _ := hrow
  obtain ⟨fa, fn, fc, rfl⟩ : ∃ fa fn fc, v = .slice fa fn fc := by obtain ⟨a, c, e, _⟩ := hF.sl; exact ⟨a, _, c, e⟩
  obtain ⟨m, Hm⟩ : ∃ m, Hid (S.length = m) := ⟨_, rfl⟩
  rw [Hm.out] at hm HRow HEnd ⊢
  obtain ⟨A, HA⟩ : ∃ A, Hid (q ^ n = A) := ⟨_, rfl⟩
  rw [HA.out] at hf HOpn ⊢
  obtain ⟨w0, Hw0⟩ : ∃ w0, Hid (w.alloc (.cells #[.int .i64 (P : Int), .int .i64 (K : Int), .slice fa fn fc] 24) = w0) := ⟨_, rfl⟩
  obtain ⟨x0, x1, x2⟩ := HX _ (Below.refl _ _)
  have HX2 : Hid (∀ W, Below w0.heap.size w0 W → (W.cell? ⟨w.heap.size, 0, none⟩ = some (.int .i64 (P : Int)) ∧ W.cell? ⟨w.heap.size, 1, none⟩ = some (.int .i64 (K : Int)) ∧ W.cell? ⟨w.heap.size, 2, none⟩ = some (.slice fa fn fc))) := by rw [← Hw0.out]; exact HX
  have HB0 : Hid (Below w.heap.size w w0) := by rw [← Hw0.out]; exact hbx
  have hmk := run_makeB A (by omega)
  obtain ⟨f, Hf⟩ : ∃ f : Nat → Nat, Hid (∀ i, q ^ i = f i) := ⟨fun i => q ^ i, fun i => rfl⟩
  have HAf : Hid (f n = A) := by show _ = _; rw [← Hf.out]; exact HA.out
  simp only [Hf.out] at HG HUp H0
  clear hF HX hfq hu hS hrow hbx Hf HA Hm
  go_enter Tryd.func16, Tryd.ntmps16
  go_wp2_with (go_at_call 25; rw [Hw0.out]; refine (CS _).mono ?_; rintro e w1 ⟨rfl, b1⟩; clear CS)
  clear x0 x1 x2
  go_loopw [8, 9] (fun av iv wr => ∃ i y : Nat, iv = .int .i64 (i : Int) ∧ i ≤ n ∧ av = .int .i64 (y : Int) ∧ Hid (f i = y) ∧ wr = w1) (fun _ iv _ => (n - intOf iv).toNat)
  case atStart => exact ⟨0, 1, rfl, by omega, rfl, H0, rfl⟩
  case round =>
    obtain ⟨i, y, rfl, hi, rfl, Hy, hw⟩ := hrel
    replace hw := hw.symm
    subst hw
    by_cases hlt : i < n
    · have hdi : decide ((i : Int) < (n : Int)) = true := by simp; omega
      have hii : (i : Int) < (n : Int) := by omega
      obtain ⟨y2, Hy2⟩ : ∃ y2, Hid (y * q = y2) := ⟨_, rfl⟩
      have hmul : (y : Int) * (q : Int) = (y2 : Int) := by rw [← Hy2.out]; simp
      have hy4 := HUp.out i hi
      rw [Hy.out] at hy4
      have hb2 : y2 ≤ 4096 * 64 := by rw [← Hy2.out]; exact Nat.mul_le_mul hy4 hq64
      have HN : Hid (f (i + 1) = y2) := by show _ = _; rw [HG.out, Hy.out, Hy2.out]
      clear hmk
      go_wp2
      go_roundw
      case rel => exact ⟨i + 1, y2, by go_num, by omega, by go_num, HN, by first | rfl | trivial⟩
      case measure => simp [intOf]; omega
    · have hdi : decide ((i : Int) < (n : Int)) = false := by simp; omega
      have HYA : Hid (y = A) := by show _ = _; rw [← Hy.out, ← HAf.out, show i = n by omega]
      obtain rfl : y = A := HYA.out
      clear HYA Hy HAf HG HUp H0
      have HW : Hid (OwnB (w1.alloc (.cells (madeCells #[.bool false] y) 4)) w1.heap.size y (fun i => if i < 0 then nrB ad mu n S (opn q n i) m else false)) := own_newB w1 y
      have HG1 : w0.heap.size ≤ w1.heap.size := b1.size
      have hb1 := b1.alloc HG1 (.cells (madeCells #[.bool false] y) 4)
      go_wp2
      clear hmk
      go_loopw [11, 12, 13, 14, 15, 16, 17] (fun cv _ _ _ _ _ _ wr => ∃ c : Nat, cv = .int .i64 (c : Int) ∧ c ≤ y ∧ Hid (OwnB wr w1.heap.size y (fun i => if i < c then nrB ad mu n S (opn q n i) m else false)) ∧ Below w0.heap.size w0 wr) (fun cv _ _ _ _ _ _ _ => (y - intOf cv).toNat)
      case atStart => exact ⟨0, rfl, by omega, HW, hb1⟩
      case round =>
        clear HW hb1 b1
        obtain ⟨c, rfl, hc, HOB, hB⟩ := hrel
        by_cases hcy : c < y
        · have hdc : decide ((c : Int) < (y : Int)) = true := by simp; omega
          have hci : (c : Int) < (y : Int) := by omega
          obtain ⟨y0, y1, y2⟩ := HX2.out wr hB
          have CO := HOpn.out wr (Below.next HB0.out hB) c hcy
          have HDc : Hid (∀ r k, Vc q n r → dotV ad mu (opn q n c) r k < q ∧ (opn q n c).getD k 0 < q ∧ r.getD k 0 < q ∧ mu ((opn q n c).getD k 0) (r.getD k 0) < q) := HDl.out c
          have HDn2 : Hid (∀ r k, dotV ad mu (opn q n c) r (k + 1) = ad (dotV ad mu (opn q n c) r k) (mu ((opn q n c).getD k 0) (r.getD k 0))) := HDn.out c
          have HD02 : Hid (∀ r, dotV ad mu (opn q n c) r 0 = 0) := HD0.out c
          have HNx2 : Hid (∀ i r, S[i]? = some r → nrB ad mu n S (opn q n c) (i + 1) = (nrB ad mu n S (opn q n c) i && (dotV ad mu (opn q n c) r n == 0))) := HNx.out c
          have HN02 : Hid (nrB ad mu n S (opn q n c) 0 = true) := HN0.out c
          have HSet : Hid (∀ W b, OwnB W w1.heap.size y (fun i => if i < c then nrB ad mu n S (opn q n i) m else false) → nrB ad mu n S (opn q n c) m = b → OwnB (W.setCell ⟨w1.heap.size, c, none⟩ (.bool b)) w1.heap.size y (fun i => if i < c + 1 then nrB ad mu n S (opn q n i) m else false)) := fun W b ho hb => ho.set c b (fun j hj => by
            show (if j = c then b else if j < c then nrB ad mu n S (opn q n j) m else false) = if j < c + 1 then nrB ad mu n S (opn q n j) m else false
            by_cases e : j = c
            · rw [if_pos e, if_pos (by omega), e, hb]
            · rw [if_neg e]
              by_cases h : j < c
              · rw [if_pos h, if_pos (by omega)]
              · rw [if_neg h, if_neg (by omega)])
          obtain ⟨O, HOq⟩ : ∃ O, Hid (opn q n c = O) := ⟨_, rfl⟩
          rw [HOq.out] at HDc HDn2 HD02 HNx2 HN02 HSet CO
          go_wp2_with (go_at_call 33; refine CO.mono ?_; rintro e wv ⟨gv, rfl, hgv, hov, bv⟩; clear CO y0 y1 y2)
          have HBv : Hid (Below w0.heap.size w0 wv) := Below.next hB bv
          have HOv : Hid (OwnN wv gv n (fun i => O.getD i 0)) := hov
          have HOBv : Hid (OwnB wv w1.heap.size y (fun i => if i < c then nrB ad mu n S (opn q n i) m else false)) := HOB.out.below bv
          clear hB bv hov HOB
          go_loopw [13, 14, 15, 16, 17] (fun bv iv _ _ _ wr => ∃ (t : Nat) (b : Bool), iv = .int .i64 (t : Int) ∧ t ≤ m ∧ bv = .bool b ∧ Hid (nrB ad mu n S O t = b) ∧ Below wv.heap.size wv wr) (fun _ iv _ _ _ _ => (m - intOf iv).toNat)
          case atStart => exact ⟨0, true, rfl, by omega, rfl, HN02, Below.refl _ _⟩
          case round =>
            obtain ⟨t, b, rfl, ht, rfl, HNb, hBt⟩ := hrel
            by_cases htm : t < m
            · have hdt : decide ((t : Int) < (m : Int)) = true := by simp; omega
              have hti : (t : Int) < (m : Int) := by omega
              obtain ⟨r, rob, off, rb, ro, rc, hrt, hvc, rfl, hcells⟩ := HRow.out t htm
              have HV : Hid (Vc q n r) := hvc
              have HCe : Hid (∀ W, Below w0.heap.size w0 W → W.cell? ⟨rob, off + t, none⟩ = some (.slice (some ⟨rb, ro, none⟩) n rc) ∧ ∀ k, k < n → W.cell? ⟨rb, ro + k, none⟩ = some (.int .i64 (r.getD k 0 : Int))) := fun W hW => hcells W (Below.next HB0.out hW)
              have HNn := HNx2.out t r hrt
              rw [HNb.out] at HNn
              have HNN : Hid (nrB ad mu n S O (t + 1) = (b && (dotV ad mu O r n == 0))) := HNn
              have H00 := HD02.out r
              have HDr : Hid (∀ k, dotV ad mu O r k < q ∧ O.getD k 0 < q ∧ r.getD k 0 < q ∧ mu (O.getD k 0) (r.getD k 0) < q) := fun k => HDc.out r k hvc
              have HDs : Hid (∀ k, dotV ad mu O r (k + 1) = ad (dotV ad mu O r k) (mu (O.getD k 0) (r.getD k 0))) := HDn2.out r
              obtain ⟨d, Hd⟩ : ∃ d : Nat → Nat, Hid (∀ k, dotV ad mu O r k = d k) := ⟨dotV ad mu O r, fun k => rfl⟩
              simp only [Hd.out] at HNN HDr HDs H00
              have HD00 : Hid (d 0 = 0) := H00
              clear hrt hvc hcells HNn HNb H00 Hd
              go_wp2
              go_loopw [15, 16, 17] (fun sv kv _ wr => ∃ k s : Nat, kv = .int .i64 (k : Int) ∧ k ≤ n ∧ sv = .int .i64 (s : Int) ∧ Hid (d k = s) ∧ Below wv.heap.size wv wr) (fun _ kv _ _ => (n - intOf kv).toNat)
              case atStart => exact ⟨0, 0, rfl, by omega, rfl, HD00, hBt⟩
              case round =>
                clear hBt
                obtain ⟨k, s, rfl, hk, rfl, Hs, hBk⟩ := hrel
                by_cases hkn : k < n
                · have hdk : decide ((k : Int) < (n : Int)) = true := by simp; omega
                  have hki : (k : Int) < (n : Int) := by omega
                  obtain ⟨l1, l2, l3, l4⟩ := HDr.out k
                  have hs1 := HDs.out k
                  have hBw := Below.next HBv.out hBk
                  have hS : Hid (∀ W, Below wr.heap.size wr W → (W.cell? ⟨w.heap.size, 0, none⟩ = some (.int .i64 (P : Int)) ∧ W.cell? ⟨w.heap.size, 1, none⟩ = some (.int .i64 (K : Int)) ∧ W.cell? ⟨w.heap.size, 2, none⟩ = some (.slice fa fn fc) ∧ W.cell? ⟨gv, k, none⟩ = some (.int .i64 (O.getD k 0 : Int)) ∧ W.cell? ⟨rob, off + t, none⟩ = some (.slice (some ⟨rb, ro, none⟩) n rc) ∧ W.cell? ⟨rb, ro + k, none⟩ = some (.int .i64 (r.getD k 0 : Int)))) := fun W hW => by
                    obtain ⟨y0, y1, y2⟩ := HX2.out W (Below.next hBw hW)
                    obtain ⟨k1, k2⟩ := HCe.out W (Below.next hBw hW)
                    exact ⟨y0, y1, y2, (HOv.out.below (Below.next hBk hW)).cell hkn, k1, k2 k hkn⟩
                  rw [Hs.out] at hs1 l1
                  obtain ⟨a, Ha⟩ : ∃ a, Hid (O.getD k 0 = a) := ⟨_, rfl⟩
                  obtain ⟨b2, Hb⟩ : ∃ b2, Hid (r.getD k 0 = b2) := ⟨_, rfl⟩
                  rw [Ha.out] at hS hs1 l2 l4
                  rw [Hb.out] at hS hs1 l3 l4
                  obtain ⟨p, Hp⟩ : ∃ p, Hid (mu a b2 = p) := ⟨_, rfl⟩
                  rw [Hp.out] at hs1 l4
                  obtain ⟨s2, Hs2⟩ : ∃ s2, Hid (ad s p = s2) := ⟨_, rfl⟩
                  rw [Hs2.out] at hs1
                  have HDD : Hid (d (k + 1) = s2) := hs1
                  have CT := fun W (b : Below wr.heap.size wr W) => HTim.out W (Below.next HB0.out (Below.next hBw b)) a b2 l2 l3 p Hp
                  have CU := fun W (b : Below wr.heap.size wr W) => HSum.out W (Below.next HB0.out (Below.next hBw b)) s p l1 l4 s2 Hs2
                  have HN3 : Hid (∀ W, Below wr.heap.size wr W → Below wv.heap.size wv W) := fun W b => Below.next hBk b
                  have HX3 : Hid (∀ W, Below wr.heap.size wr W → (W.cell? ⟨w.heap.size, 0, none⟩ = some (.int .i64 (P : Int)) ∧ W.cell? ⟨w.heap.size, 1, none⟩ = some (.int .i64 (K : Int)) ∧ W.cell? ⟨w.heap.size, 2, none⟩ = some (.slice fa fn fc))) := fun W b => HX2.out W (Below.next hBw b)
                  have p1 : Below wr.heap.size wr wr := Below.refl _ _
                  clear hBk hBw hs1
                  go_wp2
                  refine wp_region_noPanic ?_
                  refine wp_region_held_drew (S := fun W => W.cell? ⟨w.heap.size, 0, none⟩ = some (.int .i64 (P : Int)) ∧ W.cell? ⟨w.heap.size, 1, none⟩ = some (.int .i64 (K : Int)) ∧ W.cell? ⟨w.heap.size, 2, none⟩ = some (.slice fa fn fc) ∧ W.cell? ⟨gv, k, none⟩ = some (.int .i64 (a : Int)) ∧ W.cell? ⟨rob, off + t, none⟩ = some (.slice (some ⟨rb, ro, none⟩) n rc) ∧ W.cell? ⟨rb, ro + k, none⟩ = some (.int .i64 (b2 : Int))) (by kernel_rfl) (hS.out _ p1.drew) (fun hSx => ?_)
                  refine wpAnyH_take (i := 0) (v := .agg #[.int .i64 (P : Int), .int .i64 (K : Int), .slice fa fn fc]) rfl (by kernel_rfl) (by kernel_rfl) (by kernel_rfl) (fun _ _ _ h => h) (Or.inl ⟨by rfl, fun w' hSw => by (try dsimp only at hSw); obtain ⟨hs0, hs1, hs2, hs3, hs4, hs5⟩ := hSw; go_simp⟩) hSx ?_
                  try simp only [Act.put, List.setIfInBounds_toArray]
                  refine wpAnyH_take (i := 1) (v := .slice (some ⟨gv, 0, none⟩) n n) rfl (by kernel_rfl) (by kernel_rfl) (by kernel_rfl) (fun _ _ _ h => h) (Or.inl ⟨by rfl, fun w' hSw => by (try dsimp only at hSw); obtain ⟨hs0, hs1, hs2, hs3, hs4, hs5⟩ := hSw; go_simp⟩) hSx ?_
                  try simp only [Act.put]
                  refine wpAnyH_take (i := 2) (v := .int .i64 (k : Int)) rfl (by kernel_rfl) (by kernel_rfl) (by kernel_rfl) (fun _ _ _ h => h) (Or.inl ⟨by rfl, fun w' hSw => by (try dsimp only at hSw); obtain ⟨hs0, hs1, hs2, hs3, hs4, hs5⟩ := hSw; go_simp⟩) hSx ?_
                  try simp only [Act.put]
                  refine wpAnyH_take (i := 3) (v := .pointer (some ⟨gv, k, none⟩)) rfl (by kernel_rfl) (by kernel_rfl) (by kernel_rfl) (fun _ _ _ h => h) (Or.inl ⟨by rfl, fun w' hSw => by (try dsimp only at hSw); obtain ⟨hs0, hs1, hs2, hs3, hs4, hs5⟩ := hSw; go_simp⟩) hSx ?_
                  try simp only [Act.put]
                  refine wpAnyH_take (i := 4) (v := .int .i64 (a : Int)) rfl (by kernel_rfl) (by kernel_rfl) (by kernel_rfl) (fun _ _ _ h => h) (Or.inl ⟨by rfl, fun w' hSw => by (try dsimp only at hSw); obtain ⟨hs0, hs1, hs2, hs3, hs4, hs5⟩ := hSw; go_simp⟩) hSx ?_
                  try simp only [Act.put]
                  refine wpAnyH_take (i := 5) (v := .slice (some ⟨rob, off, none⟩) m uc) rfl (by kernel_rfl) (by kernel_rfl) (by kernel_rfl) (fun _ _ _ h => h) (Or.inl ⟨by rfl, fun w' hSw => by (try dsimp only at hSw); obtain ⟨hs0, hs1, hs2, hs3, hs4, hs5⟩ := hSw; go_simp⟩) hSx ?_
                  try simp only [Act.put]
                  refine wpAnyH_take (i := 6) (v := .int .i64 (t : Int)) rfl (by kernel_rfl) (by kernel_rfl) (by kernel_rfl) (fun _ _ _ h => h) (Or.inl ⟨by rfl, fun w' hSw => by (try dsimp only at hSw); obtain ⟨hs0, hs1, hs2, hs3, hs4, hs5⟩ := hSw; go_simp⟩) hSx ?_
                  try simp only [Act.put]
                  refine wpAnyH_take (i := 7) (v := .pointer (some ⟨rob, off + t, none⟩)) rfl (by kernel_rfl) (by kernel_rfl) (by kernel_rfl) (fun _ _ _ h => h) (Or.inl ⟨by rfl, fun w' hSw => by (try dsimp only at hSw); obtain ⟨hs0, hs1, hs2, hs3, hs4, hs5⟩ := hSw; go_simp⟩) hSx ?_
                  try simp only [Act.put]
                  refine wpAnyH_take (i := 8) (v := .slice (some ⟨rb, ro, none⟩) n rc) rfl (by kernel_rfl) (by kernel_rfl) (by kernel_rfl) (fun _ _ _ h => h) (Or.inl ⟨by rfl, fun w' hSw => by (try dsimp only at hSw); obtain ⟨hs0, hs1, hs2, hs3, hs4, hs5⟩ := hSw; go_simp⟩) hSx ?_
                  try simp only [Act.put]
                  refine wpAnyH_take (i := 9) (v := .int .i64 (k : Int)) rfl (by kernel_rfl) (by kernel_rfl) (by kernel_rfl) (fun _ _ _ h => h) (Or.inl ⟨by rfl, fun w' hSw => by (try dsimp only at hSw); obtain ⟨hs0, hs1, hs2, hs3, hs4, hs5⟩ := hSw; go_simp⟩) hSx ?_
                  try simp only [Act.put]
                  refine wpAnyH_take (i := 10) (v := .pointer (some ⟨rb, ro + k, none⟩)) rfl (by kernel_rfl) (by kernel_rfl) (by kernel_rfl) (fun _ _ _ h => h) (Or.inl ⟨by rfl, fun w' hSw => by (try dsimp only at hSw); obtain ⟨hs0, hs1, hs2, hs3, hs4, hs5⟩ := hSw; go_simp⟩) hSx ?_
                  try simp only [Act.put]
                  refine wpAnyH_take (i := 11) (v := .int .i64 (b2 : Int)) rfl (by kernel_rfl) (by kernel_rfl) (by kernel_rfl) (fun _ _ _ h => h) (Or.inl ⟨by rfl, fun w' hSw => by (try dsimp only at hSw); obtain ⟨hs0, hs1, hs2, hs3, hs4, hs5⟩ := hSw; go_simp⟩) hSx ?_
                  try simp only [Act.put]
                  refine wpAnyH_ready (rs := [12]) (by kernel_rfl) (by simp) ?_
                  refine (AllReadyH.cons rfl (fun J hJ => ?_) AllReadyH.nil)
                  go_simp
                  refine (CT _ p1.drew).mono ?_
                  rintro e w3 ⟨rfl, bv1⟩
                  have p2 : Below wr.heap.size wr w3 := Below.next p1.drew bv1
                  go_wp2_with fail
                  refine hJ.out _ _ (hS.out _ p2) (fun hSx => ?_)
                  clear hJ J
                  try simp only [Act.put, List.setIfInBounds_toArray, List.set_cons_zero, List.set_cons_succ]
                  refine wpAnyH_ready (rs := [13]) (by kernel_rfl) (by simp) ?_
                  refine (AllReadyH.cons rfl (fun J hJ => ?_) AllReadyH.nil)
                  go_simp
                  refine hJ.out _ _ (hS.out _ p2) (fun hSx => ?_)
                  clear hJ J
                  try simp only [Act.put, List.setIfInBounds_toArray, List.set_cons_zero, List.set_cons_succ]
                  refine wpAnyH_done (by kernel_rfl) ?_ _
                  refine NoPanic.normal ?_
                  obtain ⟨z0, z1, z2⟩ := HX3.out w3 p2
                  have CU2 := CU w3 p2
                  clear hSx hS CT CU
                  go_wp2_with (go_at_call 36; refine CU2.mono ?_; rintro e w4 ⟨rfl, bv2⟩; clear CU2)
                  have hB4 := HN3.out w4 (Below.next p2 bv2)
                  go_roundw
                  case rel => exact ⟨k + 1, s2, by go_num, by omega, rfl, HDD, hB4⟩
                  case measure => simp [intOf]; omega
                · have hdk : decide ((k : Int) < (n : Int)) = false := by simp; omega
                  obtain rfl : n = k := by omega
                  rw [Hs.out] at HNN
                  by_cases hb : b = true
                  · subst hb
                    by_cases hs0 : s = 0
                    · have hq0 : ((s : Int) == 0) = true := by simpa using hs0
                      have HN4 : Hid (nrB ad mu n S O (t + 1) = true) := by show _ = _; rw [HNN.out, hs0]; rfl
                      have HS0 : Hid (s = 0) := hs0
                      clear HNN hs0
                      go_wp2
                      go_roundw
                      case rel => exact ⟨t + 1, true, by go_num, by omega, by first | rfl | (simp; exact HS0.out), HN4, hBk⟩
                      case measure => simp [intOf]; omega
                    · have hq0 : ((s : Int) == 0) = false := by simpa using hs0
                      have HN4 : Hid (nrB ad mu n S O (t + 1) = false) := by show _ = _; rw [HNN.out]; simpa using hs0
                      have HS0 : Hid (¬ s = 0) := hs0
                      clear HNN hs0
                      go_wp2
                      go_roundw
                      case rel => exact ⟨t + 1, false, by go_num, by omega, by first | rfl | (simp; exact HS0.out), HN4, hBk⟩
                      case measure => simp [intOf]; omega
                  · obtain rfl : b = false := by simpa using hb
                    have HN4 : Hid (nrB ad mu n S O (t + 1) = false) := by show _ = _; rw [HNN.out]; rfl
                    clear HNN hb
                    go_wp2
                    go_roundw
                    case rel => exact ⟨t + 1, false, by go_num, by omega, rfl, HN4, hBk⟩
                    case measure => simp [intOf]; omega
            · have hdt : decide ((t : Int) < (m : Int)) = false := by simp; omega
              have htn : ¬ t < m := htm
              have HNm : Hid (nrB ad mu n S O m = b) := by show _ = _; rw [show m = t by omega]; exact HNb.out
              have hOw := HOBv.out.below hBt
              have c2 := hOw.cell hcy
              have f2 := hOw.frozen c
              have hset : Hid (OwnB (wr.setCell ⟨w1.heap.size, c, none⟩ (.bool b)) w1.heap.size y (fun i => if i < c + 1 then nrB ad mu n S (opn q n i) m else false)) := HSet.out wr b hOw HNm.out
              have hBs := (Below.next HBv.out hBt).setCell (p := ⟨w1.heap.size, c, none⟩) HG1 (.bool b)
              clear hOw HNm
              go_wp2
              go_roundw
              case rel => exact ⟨c + 1, by go_num, by omega, hset, hBs⟩
              case measure => simp [intOf]; omega
        · have hdc : decide ((c : Int) < (y : Int)) = false := by simp; omega
          obtain rfl : y = c := by omega
          have HFin : Hid (∀ c, c < y → ((if c < y then nrB ad mu n S (opn q n c) m else false) = true ↔ Nrm q ad mu n S (opn q n c))) := fun c hc => by rw [if_pos hc]; exact HEnd.out c
          have hBB := Below.next HB0.out hB
          go_wp2
          go_ret
          exact ⟨w1.heap.size, _, rfl, HOB.out, HFin.out, hBB⟩
end Go.Proofs.YtgdkfbgehbdkjaaDoor
