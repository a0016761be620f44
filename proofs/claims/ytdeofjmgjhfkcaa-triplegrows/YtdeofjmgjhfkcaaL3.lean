/- The law TripleMakes. -/
import Derived.Test.YtdeofjmgjhfkcaaD1
import Derived.Test.YtdeofjmgjhfkcaaDDe
/- The walk of the document's MakeOf, whatever it is asked. -/
/- The walk of the document's MakeOf: the other kind, and all. -/
namespace Go.Proofs.Ytdeofjmgjhfkcaa
open Go.RowKit

set_option maxRecDepth 100000 in
set_option maxHeartbeats 16000000 in
theorem MakeOf_sk (n : Nat) (w : World) (h0 : 1 ≤ n) (h3 : n ≤ 33) (h6 : n % 6 = 1) :
    Calls Try.prog 10 #[.int .i64 (n : Int)] w fun e w' => ∃ x Z, e = .returned (.tuple #[.agg #[.int .i64 (n : Int), x], .int .i64 0]) ∧ Srtd (skL (n / 6)) Z ∧ Rw w' x (toZ Z) ∧ Below w.heap.size w w' := by
  have hd1 : decide ((n : Int) < 1) = false := by simp; omega
  have hd2 : decide ((33 : Int) < (n : Int)) = false := by simp; omega
  have hd3 : ¬ (n : Int) < 1 := by omega
  have hd4 : ¬ (33 : Int) < (n : Int) := by omega
  have hm6 : (n : Int).tmod 6 = 1 := by rw [Int.tmod_eq_emod_of_nonneg (by omega)]; omega
  have hq : (n : Int).tdiv 6 = ((n / 6 : Nat) : Int) := by rw [Int.tdiv_eq_ediv_of_nonneg (by omega)]; rfl
  have ht5 : n / 6 ≤ 5 := by omega
  have HSD : Hid (∀ Z, Ordd (docK (n / 6)) Z → Srtd (skL (n / 6)) Z) := fun Z h => h.srtd (docK_perm (n / 6))
  have HM3 : Hid (∀ b ∈ docK (n / 6), b.length = 3) := docK_three (n / 6)
  have HMD : Hid (∀ m, m = 2 * (n / 6) → dkX (n / 6) m (n / 6) ++ dX m (skF (n / 6) m) m = docK (n / 6)) := fun m e => by rw [e]; rfl
  clear h6
  generalize n / 6 = t at *
  generalize skL t = ML at *
  generalize docK t = MD at *
  obtain ⟨m, hm⟩ : ∃ m, m = 2 * t := ⟨_, rfl⟩
  have HME : Hid (dkX t m t ++ dX m (skF t m) m = MD) := HMD.out m hm
  have hm11 : m ≤ 11 := by omega
  have hm2 : (m : Int) = 2 * (t : Int) := by omega
  obtain ⟨i45, ji3, jz0, jz1, jz2⟩ := info36
  have hres0 : Hid ((w.alloc (.cells #[.int .i64 0, .slice none 0 0] 24)).heap[w.heap.size]? = some (.cells #[.int .i64 0, .slice none 0 0] 24 (0, 0))) := heap_alloc_new w _
  have HB0 : Hid (Below (w.heap.size + 1) (w.alloc (.cells #[.int .i64 0, .slice none 0 0] 24)) (w.alloc (.cells #[.int .i64 0, .slice none 0 0] 24))) := Below.refl _ _
  have HZ0 : Hid ((w.alloc (.cells #[.int .i64 0, .slice none 0 0] 24)).heap.size = w.heap.size + 1) := by show _ = _; simp
  obtain ⟨w0, Hw0⟩ : ∃ w0, Hid (w0 = w.alloc (.cells #[.int .i64 0, .slice none 0 0] 24)) := ⟨_, rfl⟩
  rw [← Hw0.out] at hres0 HB0 HZ0
  have HXE : Hid (dX m (skF t m) 0 = []) := rfl
  have HXS : Hid (∀ x, dX m (skF t m) (x + 1) = dX m (skF t m) x ++ dY m (skF t m) x (m - (x + 1))) := dX_succ m _
  have HYS : Hid (∀ x k, dY m (skF t m) x (k + 1) = dY m (skF t m) x k ++ dI m (skF t m x (x + 1 + k)) x (x + 1 + k) 3) := dY_succ m _
  have HXL : Hid (∀ x, x ≤ m → (dX m (skF t m) x).length ≤ 363) := fun x hx => by have := dX_len m (skF t m) hm11 x hx; omega
  have HYL : Hid (∀ x k, k ≤ m → (dY m (skF t m) x k).length ≤ 33) := fun x k hk => by rw [dY_len]; omega
  have HFD : Hid (∀ x y, x < y → y < m → skF t m x y ≤ 30) := fun x y h1 h2 => by
    have h3 : (x + y) % m < m := Nat.mod_lt _ (by omega)
    have h4 : (x + y) % m % 2 * t ≤ 1 * 5 := Nat.mul_le_mul (by omega) (by omega)
    unfold skF; omega
  have HIO : Hid (∀ (W : World) (u : Value), Rw W u (toZ MD) → MD.length ≤ 6000 → Calls Try.prog 28 #[u] W fun e w' => ∃ x Z, e = .returned x ∧ Ordd MD Z ∧ OR w' W.heap.size x Z ∧ Below W.heap.size W w') := fun W u h h' => InOrder_any MD u W h HM3.out h'
  obtain ⟨FF, HFF⟩ : ∃ FF, Hid (skF t m = FF) := ⟨_, rfl⟩
  rw [HFF.out] at HME HXE HXS HYS HXL HYL HFD
  go_enter Try.func10, Try.ntmps10
  go_wp2
  rw [← hm2, ← Hw0.out]
  clear hm2 hm HMD
  go_loopw [4, 8] (fun lv xv wr => ∃ (x : Nat), xv = .int .i64 (x : Int) ∧ x ≤ t ∧ OR wr (w.heap.size + 1) lv (dkX t m x) ∧ Below (w.heap.size + 1) w0 wr) (fun _ xv _ => (t - intOf xv).toNat)
  case atStart => exact ⟨0, rfl, by omega, OR.nil _ _, HB0.out⟩
  case round =>
    obtain ⟨x, rfl, hx, hO, hB⟩ := hrel
    obtain ⟨oa, oc, rfl⟩ := hO.cap
    have hsz : w.heap.size + 1 ≤ wr.heap.size := by have := hB.size; have := HZ0.out; omega
    obtain ⟨LL, HLL⟩ : ∃ LL, Hid (dkX t m x = LL) := ⟨_, rfl⟩
    have hlen : LL.length = 4 * x := by rw [← HLL.out, dkX_len]
    have HUS : Hid (dkX t m (x + 1) = (LL ++ [[x, x + m, x + 2 * m]]) ++ dkI t m x 3) := by show _ = _; rw [dkX_succ, HLL.out]
    rw [HLL.out] at hO ⊢
    obtain ⟨ln, HLN⟩ : ∃ ln, Hid (LL.length = ln) := ⟨_, rfl⟩
    rw [HLN.out] at hO hlen ⊢
    by_cases hlt : x < t
    · have hdi : decide ((x : Int) < (t : Int)) = true := by simp; omega
      have hii : (x : Int) < (t : Int) := by omega
      have hln9 : ln ≤ 99 := by omega
      clear hlen
      obtain ⟨vals, h1, h2⟩ := hO
      have H1 : Hid (wr.ownsRow (w.heap.size + 1) 45 1 (.slice oa ln oc) LL.length vals) := h1
      have H2 : Hid (∀ (i : Nat) (u : Value) (l : List Nat), vals[i]? = some u → LL[i]? = some l → ORow wr (w.heap.size + 1) u l) := h2
      rw [HLN.out] at h1
      clear h2
      go_wp2_with (first
        | (at_builtin; refine wpList_append_own _ rfl _ _ 22 rfl (w.heap.size + 1) 45 i45 (.slice none 0 0) 1 24 undR ji3 jz0 jz1 jz2 rfl (by decide) _ _ _ rfl ((h1.alloc _).alloc _) ⟨wr.heap.size + 1, 0, none⟩ 1 1 [.slice (some ⟨wr.heap.size, 0, none⟩) 3 3] rfl rfl ?c1 ?c2 ?c3 ?c4 ?c5 ?_)
        | go_in)
      case c1 =>
        intro j u hj
        match j, hj with
        | 0, hj => simp at hj; subst hj; simp [Addr.add]
      case c2 => intro u hu; simp at hu; subst hu; rfl
      case c3 => unfold maxLen; omega
      case c4 => omega
      case c5 => simp; omega
      · intro v' w2 hown' hgrow _
        have hap := or_app3 (L := LL) (x := x) (y := x + m) (z := x + 2 * m) H1.out H2.out HLN.out (by omega) hown' hgrow (by omega) (by omega) (by omega)
        have hBn := hB.trans hap.2
        have hOn := hap.1
        obtain ⟨Lk, HLk⟩ : ∃ Lk, Hid (LL ++ [[x, x + m, x + 2 * m]] = Lk) := ⟨_, rfl⟩
        rw [HLk.out] at hOn HUS
        have HLKN : Hid (Lk.length ≤ 200) := by show _ ≤ _; rw [← HLk.out, List.length_append, HLN.out]; simp; omega
        have HO1 : Hid (OR w2 (w.heap.size + 1) v' (Lk ++ dkI t m x 0)) := by show OR _ _ _ _; simpa [dkI] using hOn
        have HB1 : Hid (Below (w.heap.size + 1) w0 w2) := hBn
        clear hap hown' hgrow h1 hB hOn hBn H1 H2 HLk HLN hsz
        go_wp2
        go_loopw [4, 9] (fun lv iv wr => ∃ (i : Nat), iv = .int .i64 (i : Int) ∧ i ≤ 3 ∧ OR wr (w.heap.size + 1) lv (Lk ++ dkI t m x i) ∧ Below (w.heap.size + 1) w0 wr) (fun _ iv _ => (3 - intOf iv).toNat)
        case atStart => exact ⟨0, rfl, by omega, HO1.out, HB1.out⟩
        case round =>
          clear HO1 HB1
          obtain ⟨i, rfl, hi, hO, hB⟩ := hrel
          obtain ⟨oa, oc, rfl⟩ := hO.cap
          have hsz : w.heap.size + 1 ≤ wr.heap.size := by have := hB.size; have := HZ0.out; omega
          clear HLL
          obtain ⟨LL, HLL⟩ : ∃ LL, Hid (Lk ++ dkI t m x i = LL) := ⟨_, rfl⟩
          have hlen : LL.length ≤ 600 := by rw [← HLL.out, List.length_append, dkI_len]; have := HLKN.out; omega
          rw [HLL.out] at hO ⊢
          obtain ⟨ln, HLN⟩ : ∃ ln, Hid (LL.length = ln) := ⟨_, rfl⟩
          rw [HLN.out] at hO hlen ⊢
          by_cases hli : i < 3
          · have hdj : decide ((i : Int) < 3) = true := by simp; omega
            have hji : (i : Int) < 3 := by omega
            have HIS : Hid (Lk ++ dkI t m x (i + 1) = LL ++ [[6 * t, x + t + m * i, x + m * ((i + 1) % 3)]]) := by show _ = _; rw [dkI_succ, ← List.append_assoc, HLL.out]
            have hrem : ((i : Int) + 1).tmod 3 = (((i + 1) % 3 : Nat) : Int) := by rw [Int.tmod_eq_emod_of_nonneg (by omega)]; rfl
            have hr3 : (i + 1) % 3 ≤ 3 := by omega
            generalize (i + 1) % 3 = r at *
            have hpq : m * i ≤ 11 * 3 := Nat.mul_le_mul hm11 hi
            have hqq : m * r ≤ 11 * 3 := Nat.mul_le_mul hm11 hr3
            have hpm1 : (m : Int) * (i : Int) = ((m * i : Nat) : Int) := by simp
            have hpm2 : (m : Int) * (r : Int) = ((m * r : Nat) : Int) := by simp
            generalize m * i = pp at *
            generalize m * r = qq at *
            obtain ⟨vals, h1, h2⟩ := hO
            have H1 : Hid (wr.ownsRow (w.heap.size + 1) 45 1 (.slice oa ln oc) LL.length vals) := h1
            have H2 : Hid (∀ (i : Nat) (u : Value) (l : List Nat), vals[i]? = some u → LL[i]? = some l → ORow wr (w.heap.size + 1) u l) := h2
            rw [HLN.out] at h1
            clear h2
            go_wp2_with (first
              | (at_builtin; refine wpList_append_own _ rfl _ _ 22 rfl (w.heap.size + 1) 45 i45 (.slice none 0 0) 1 24 undR ji3 jz0 jz1 jz2 rfl (by decide) _ _ _ rfl ((h1.alloc _).alloc _) ⟨wr.heap.size + 1, 0, none⟩ 1 1 [.slice (some ⟨wr.heap.size, 0, none⟩) 3 3] rfl rfl ?c1 ?c2 ?c3 ?c4 ?c5 ?_)
              | go_in)
            case c1 =>
              intro j u hj
              match j, hj with
              | 0, hj => simp at hj; subst hj; simp [Addr.add]
            case c2 => intro u hu; simp at hu; subst hu; rfl
            case c3 => unfold maxLen; omega
            case c4 => omega
            case c5 => simp; omega
            · intro v' w2 hown' hgrow _
              have hap := or_app3 (L := LL) (x := 6 * t) (y := x + t + pp) (z := x + qq) H1.out H2.out HLN.out (by omega) hown' hgrow (by omega) (by omega) (by omega)
              rw [← HIS.out] at hap
              have hBn := hB.trans hap.2
              have hOn := hap.1
              clear hap hown' hgrow h1 hB
              go_wp2
              go_roundw
              case rel => exact ⟨i + 1, by go_num, by omega, hOn, hBn⟩
              case measure => simp [intOf]; omega
          · have hdj : decide ((i : Int) < 3) = false := by simp; omega
            obtain rfl : i = 3 := by omega
            rw [← HLL.out, ← HUS.out] at hO
            go_wp2
            go_roundw
            case rel => exact ⟨x + 1, by go_num, by omega, hO, hB⟩
            case measure => simp [intOf]; omega
    · have hdi : decide ((x : Int) < (t : Int)) = false := by simp; omega
      have hxm : t = x := by omega
      subst hxm
      have HOP : Hid (OR wr (w.heap.size + 1) (.slice oa ln oc) LL) := hO
      have HBP : Hid (Below (w.heap.size + 1) w0 wr) := hB
      rw [HLL.out] at HME
      have HPL : Hid (LL.length ≤ 20) := by show _ ≤ _; rw [HLN.out]; omega
      clear hO hB HLL hlen hsz HUS HLN
      generalize LL = PP at *
      go_wp2
      go_loopw [4, 10] (fun lv xv wr => ∃ (x : Nat), xv = .int .i64 (x : Int) ∧ x ≤ m ∧ OR wr (w.heap.size + 1) lv (PP ++ dX m FF x) ∧ Below (w.heap.size + 1) w0 wr) (fun _ xv _ => (m - intOf xv).toNat)
      case atStart => exact ⟨0, rfl, by omega, by rw [HXE.out, List.append_nil]; exact HOP.out, HBP.out⟩
      case round =>
        clear HOP HBP
        obtain ⟨x, rfl, hx, hO, hB⟩ := hrel
        obtain ⟨oa, oc, rfl⟩ := hO.cap
        obtain ⟨Lx, HLx⟩ : ∃ Lx, Hid (PP ++ dX m FF x = Lx) := ⟨_, rfl⟩
        have hlx9 : Lx.length ≤ 400 := by rw [← HLx.out, List.length_append]; have := HXL.out x hx; have := HPL.out; omega
        rw [HLx.out] at hO ⊢
        by_cases hlt : x < m
        · have hdi : decide ((x : Int) < (m : Int)) = true := by simp; omega
          have hii : (x : Int) < (m : Int) := by omega
          have HXX : Hid (PP ++ dX m FF (x + 1) = Lx ++ dY m FF x (m - (x + 1))) := by show _ = _; rw [HXS.out, ← List.append_assoc, HLx.out]
          have HO1 : Hid (OR wr (w.heap.size + 1) (.slice oa Lx.length oc) Lx) := hO
          have HB1 : Hid (Below (w.heap.size + 1) w0 wr) := hB
          have HY0 : Hid (dY m FF x 0 = []) := rfl
          have HLXN : Hid (Lx.length ≤ 400) := hlx9
          generalize Lx.length = lxn at HO1 ⊢
          clear hO hB hlx9
          go_wp2
          go_loopw [4, 11] (fun lv yv wr => ∃ (k : Nat), yv = .int .i64 ((x : Int) + 1 + (k : Int)) ∧ x + 1 + k ≤ m ∧ OR wr (w.heap.size + 1) lv (Lx ++ dY m FF x k) ∧ Below (w.heap.size + 1) w0 wr) (fun _ yv _ => (m - intOf yv).toNat)
          case atStart => exact ⟨0, by simp, by omega, by rw [HY0.out, List.append_nil]; exact HO1.out, HB1.out⟩
          case round =>
            clear HO1 HB1
            obtain ⟨k, rfl, hk, hO, hB⟩ := hrel
            obtain ⟨oa, oc, rfl⟩ := hO.cap
            obtain ⟨Ly, HLy⟩ : ∃ Ly, Hid (Lx ++ dY m FF x k = Ly) := ⟨_, rfl⟩
            have HLYN : Hid (Ly.length ≤ 500) := by show _ ≤ _; rw [← HLy.out, List.length_append]; have := HYL.out x k (by omega); have := HLXN.out; omega
            rw [HLy.out] at hO ⊢
            have hYS := HYS.out x k
            obtain ⟨y, hy⟩ : ∃ y, y = x + 1 + k := ⟨_, rfl⟩
            have hyz : (x : Int) + 1 + (k : Int) = (y : Int) := by omega
            rw [hyz]
            rw [← hy] at hYS
            have HYY : Hid (Lx ++ dY m FF x (k + 1) = Ly ++ dI m (FF x y) x y 3) := by show _ = _; rw [hYS, ← List.append_assoc, HLy.out]
            have HKY : Hid (y = x + 1 + k) := hy
            clear hYS hyz
            by_cases hly : y < m
            · have hdy : decide ((y : Int) < (m : Int)) = true := by simp; omega
              have hyi : (y : Int) < (m : Int) := by omega
              have hxy : x < y := by omega
              have hfl := HFD.out x y hxy hly
              have HO1 : Hid (OR wr (w.heap.size + 1) (.slice oa Ly.length oc) Ly) := hO
              have HB1 : Hid (Below (w.heap.size + 1) w0 wr) := hB
              generalize Ly.length = lyn at HO1 ⊢
              clear hO hB hy hk
              have hp : (x + y) * (t + 1) ≤ 22 * 6 := Nat.mul_le_mul (by omega) (by omega)
              have hpm : ((x : Int) + (y : Int)) * ((t : Int) + 1) = (((x + y) * (t + 1) : Nat) : Int) := by simp
              have hF : FF x y = ((x + y) % m) / 2 + ((x + y) % m) % 2 * t := by rw [← HFF.out]; rfl
              have hmz : ¬ (m : Int) = 0 := by omega
              have hmz2 : ((m : Int) == 0) = false := by simp; omega
              generalize (x + y) * (t + 1) = p at *
              have hr : (p : Int).tmod (m : Int) = ((p % m : Nat) : Int) := by rw [Int.tmod_eq_emod_of_nonneg (by omega)]; rfl
              have hlpm : p % m < m := Nat.mod_lt _ (by omega)
              have hr2 : ((x : Int) + (y : Int)).tmod (m : Int) = (((x + y) % m : Nat) : Int) := by rw [Int.tmod_eq_emod_of_nonneg (by omega)]; rfl
              have hls : (x + y) % m < m := Nat.mod_lt _ (by omega)
              rw [hF] at HYY hfl
              generalize p % m = pm at *
              generalize (x + y) % m = c at *
              have hq2 : (c : Int).tdiv 2 = ((c / 2 : Nat) : Int) := by rw [Int.tdiv_eq_ediv_of_nonneg (by omega)]; rfl
              have hm2' : (c : Int).tmod 2 = ((c % 2 : Nat) : Int) := by rw [Int.tmod_eq_emod_of_nonneg (by omega)]; rfl
              have hc2 : c % 2 < 2 := Nat.mod_lt _ (by omega)
              clear hF
              obtain ⟨h, Hh⟩ : ∃ h, Hid (c / 2 + c % 2 * t = h) := ⟨_, rfl⟩
              rw [Hh.out] at HYY hfl
              by_cases hc1 : c % 2 = 1
              · have he : (((c % 2 : Nat) : Int) == 1) = true := by simp; omega
                have he2 : ((c % 2 : Nat) : Int) = 1 := by omega
                have hsu : ((c : Int) - 1).tdiv 2 = ((c / 2 : Nat) : Int) := by rw [Int.tdiv_eq_ediv_of_nonneg (by omega)]; omega
                have hhv : h = c / 2 + t := by rw [← Hh.out, hc1, Nat.one_mul]
                have hc9 : c / 2 ≤ 10 := by omega
                have hcp : 1 ≤ c := by omega
                have hhI : ((c / 2 : Nat) : Int) + (t : Int) = (h : Int) := by omega
                generalize c / 2 = c2 at *
                generalize c % 2 = cm at *
                clear hhv Hh
                go_wp2
                go_loopw [4, 14] (fun lv iv wr => ∃ (i : Nat), iv = .int .i64 (i : Int) ∧ i ≤ 3 ∧ OR wr (w.heap.size + 1) lv (Ly ++ dI m h x y i) ∧ Below (w.heap.size + 1) w0 wr) (fun _ iv _ => (3 - intOf iv).toNat)
                case atStart => exact ⟨0, rfl, by omega, by rw [show dI m h x y 0 = [] from rfl, List.append_nil]; exact HO1.out, HB1.out⟩
                case round =>
                  clear HO1 HB1
                  obtain ⟨i, rfl, hi, hO, hB⟩ := hrel
                  obtain ⟨oa, oc, rfl⟩ := hO.cap
                  have hsz : w.heap.size + 1 ≤ wr.heap.size := by have := hB.size; have := HZ0.out; omega
                  obtain ⟨LL, HLL⟩ : ∃ LL, Hid (Ly ++ dI m h x y i = LL) := ⟨_, rfl⟩
                  have hlen : LL.length ≤ 600 := by rw [← HLL.out, List.length_append, dI_len]; have := HLYN.out; omega
                  rw [HLL.out] at hO ⊢
                  obtain ⟨ln, HLN⟩ : ∃ ln, Hid (LL.length = ln) := ⟨_, rfl⟩
                  rw [HLN.out] at hO hlen ⊢
                  by_cases hli : i < 3
                  · have hdj : decide ((i : Int) < 3) = true := by simp; omega
                    have hji : (i : Int) < 3 := by omega
                    have HIS : Hid (Ly ++ dI m h x y (i + 1) = LL ++ [[x + m * i, y + m * i, h + m * ((i + 1) % 3)]]) := by show _ = _; rw [dI_succ, ← List.append_assoc, HLL.out]
                    have hrem : ((i : Int) + 1).tmod 3 = (((i + 1) % 3 : Nat) : Int) := by rw [Int.tmod_eq_emod_of_nonneg (by omega)]; rfl
                    have hr3 : (i + 1) % 3 ≤ 3 := by omega
                    generalize (i + 1) % 3 = r at *
                    have hpq : m * i ≤ 11 * 3 := Nat.mul_le_mul hm11 hi
                    have hqq : m * r ≤ 11 * 3 := Nat.mul_le_mul hm11 hr3
                    have hpm1 : (m : Int) * (i : Int) = ((m * i : Nat) : Int) := by simp
                    have hpm2 : (m : Int) * (r : Int) = ((m * r : Nat) : Int) := by simp
                    generalize m * i = pp at *
                    generalize m * r = qq at *
                    obtain ⟨vals, h1, h2⟩ := hO
                    have H1 : Hid (wr.ownsRow (w.heap.size + 1) 45 1 (.slice oa ln oc) LL.length vals) := h1
                    have H2 : Hid (∀ (i : Nat) (u : Value) (l : List Nat), vals[i]? = some u → LL[i]? = some l → ORow wr (w.heap.size + 1) u l) := h2
                    rw [HLN.out] at h1
                    clear h2
                    go_wp2_with (first
                      | (at_builtin; refine wpList_append_own _ rfl _ _ 22 rfl (w.heap.size + 1) 45 i45 (.slice none 0 0) 1 24 undR ji3 jz0 jz1 jz2 rfl (by decide) _ _ _ rfl ((h1.alloc _).alloc _) ⟨wr.heap.size + 1, 0, none⟩ 1 1 [.slice (some ⟨wr.heap.size, 0, none⟩) 3 3] rfl rfl ?c1 ?c2 ?c3 ?c4 ?c5 ?_)
                      | go_in)
                    case c1 =>
                      intro j u hj
                      match j, hj with
                      | 0, hj => simp at hj; subst hj; simp [Addr.add]
                    case c2 => intro u hu; simp at hu; subst hu; rfl
                    case c3 => unfold maxLen; omega
                    case c4 => omega
                    case c5 => simp; omega
                    · intro v' w2 hown' hgrow _
                      have hap := or_app3 (L := LL) (x := x + pp) (y := y + pp) (z := h + qq) H1.out H2.out HLN.out (by omega) hown' hgrow (by omega) (by omega) (by omega)
                      rw [← HIS.out] at hap
                      have hBn := hB.trans hap.2
                      have hOn := hap.1
                      clear hap hown' hgrow h1 hB
                      go_wp2
                      go_roundw
                      case rel => exact ⟨i + 1, by go_num, by omega, hOn, hBn⟩
                      case measure => simp [intOf]; omega
                  · have hdj : decide ((i : Int) < 3) = false := by simp; omega
                    obtain rfl : i = 3 := by omega
                    rw [← HLL.out, ← HYY.out] at hO
                    go_wp2
                    go_roundw
                    case rel => exact ⟨k + 1, by have := HKY.out; simp; omega, by have := HKY.out; omega, hO, hB⟩
                    case measure => simp [intOf]; omega
              · have he : (((c % 2 : Nat) : Int) == 1) = false := by simp; omega
                have he2 : ¬ ((c % 2 : Nat) : Int) = 1 := by omega
                have hhv : c / 2 = h := by rw [← Hh.out, show c % 2 = 0 by omega, Nat.zero_mul, Nat.add_zero]
                rw [hhv] at hq2
                generalize c % 2 = cm at *
                clear hhv Hh hc1
                go_wp2
                go_loopw [4, 14] (fun lv iv wr => ∃ (i : Nat), iv = .int .i64 (i : Int) ∧ i ≤ 3 ∧ OR wr (w.heap.size + 1) lv (Ly ++ dI m h x y i) ∧ Below (w.heap.size + 1) w0 wr) (fun _ iv _ => (3 - intOf iv).toNat)
                case atStart => exact ⟨0, rfl, by omega, by rw [show dI m h x y 0 = [] from rfl, List.append_nil]; exact HO1.out, HB1.out⟩
                case round =>
                  clear HO1 HB1
                  obtain ⟨i, rfl, hi, hO, hB⟩ := hrel
                  obtain ⟨oa, oc, rfl⟩ := hO.cap
                  have hsz : w.heap.size + 1 ≤ wr.heap.size := by have := hB.size; have := HZ0.out; omega
                  obtain ⟨LL, HLL⟩ : ∃ LL, Hid (Ly ++ dI m h x y i = LL) := ⟨_, rfl⟩
                  have hlen : LL.length ≤ 600 := by rw [← HLL.out, List.length_append, dI_len]; have := HLYN.out; omega
                  rw [HLL.out] at hO ⊢
                  obtain ⟨ln, HLN⟩ : ∃ ln, Hid (LL.length = ln) := ⟨_, rfl⟩
                  rw [HLN.out] at hO hlen ⊢
                  by_cases hli : i < 3
                  · have hdj : decide ((i : Int) < 3) = true := by simp; omega
                    have hji : (i : Int) < 3 := by omega
                    have HIS : Hid (Ly ++ dI m h x y (i + 1) = LL ++ [[x + m * i, y + m * i, h + m * ((i + 1) % 3)]]) := by show _ = _; rw [dI_succ, ← List.append_assoc, HLL.out]
                    have hrem : ((i : Int) + 1).tmod 3 = (((i + 1) % 3 : Nat) : Int) := by rw [Int.tmod_eq_emod_of_nonneg (by omega)]; rfl
                    have hr3 : (i + 1) % 3 ≤ 3 := by omega
                    generalize (i + 1) % 3 = r at *
                    have hpq : m * i ≤ 11 * 3 := Nat.mul_le_mul hm11 hi
                    have hqq : m * r ≤ 11 * 3 := Nat.mul_le_mul hm11 hr3
                    have hpm1 : (m : Int) * (i : Int) = ((m * i : Nat) : Int) := by simp
                    have hpm2 : (m : Int) * (r : Int) = ((m * r : Nat) : Int) := by simp
                    generalize m * i = pp at *
                    generalize m * r = qq at *
                    obtain ⟨vals, h1, h2⟩ := hO
                    have H1 : Hid (wr.ownsRow (w.heap.size + 1) 45 1 (.slice oa ln oc) LL.length vals) := h1
                    have H2 : Hid (∀ (i : Nat) (u : Value) (l : List Nat), vals[i]? = some u → LL[i]? = some l → ORow wr (w.heap.size + 1) u l) := h2
                    rw [HLN.out] at h1
                    clear h2
                    go_wp2_with (first
                      | (at_builtin; refine wpList_append_own _ rfl _ _ 22 rfl (w.heap.size + 1) 45 i45 (.slice none 0 0) 1 24 undR ji3 jz0 jz1 jz2 rfl (by decide) _ _ _ rfl ((h1.alloc _).alloc _) ⟨wr.heap.size + 1, 0, none⟩ 1 1 [.slice (some ⟨wr.heap.size, 0, none⟩) 3 3] rfl rfl ?c1 ?c2 ?c3 ?c4 ?c5 ?_)
                      | go_in)
                    case c1 =>
                      intro j u hj
                      match j, hj with
                      | 0, hj => simp at hj; subst hj; simp [Addr.add]
                    case c2 => intro u hu; simp at hu; subst hu; rfl
                    case c3 => unfold maxLen; omega
                    case c4 => omega
                    case c5 => simp; omega
                    · intro v' w2 hown' hgrow _
                      have hap := or_app3 (L := LL) (x := x + pp) (y := y + pp) (z := h + qq) H1.out H2.out HLN.out (by omega) hown' hgrow (by omega) (by omega) (by omega)
                      rw [← HIS.out] at hap
                      have hBn := hB.trans hap.2
                      have hOn := hap.1
                      clear hap hown' hgrow h1 hB
                      go_wp2
                      go_roundw
                      case rel => exact ⟨i + 1, by go_num, by omega, hOn, hBn⟩
                      case measure => simp [intOf]; omega
                  · have hdj : decide ((i : Int) < 3) = false := by simp; omega
                    obtain rfl : i = 3 := by omega
                    rw [← HLL.out, ← HYY.out] at hO
                    go_wp2
                    go_roundw
                    case rel => exact ⟨k + 1, by have := HKY.out; simp; omega, by have := HKY.out; omega, hO, hB⟩
                    case measure => simp [intOf]; omega
            · have hdy : decide ((y : Int) < (m : Int)) = false := by simp; omega
              have hkm : m - (x + 1) = k := by omega
              rw [← HLy.out, ← hkm, ← HXX.out] at hO
              have hyl : Ly.length = (PP ++ dX m FF (x + 1)).length := by rw [HXX.out, hkm, HLy.out]
              have HOX : Hid (OR wr (w.heap.size + 1) (.slice oa Ly.length oc) (PP ++ dX m FF (x + 1))) := by rw [hyl]; exact hO
              generalize Ly.length = lyn at HOX ⊢
              clear hyl hkm hy hk hO HLYN
              go_wp2
              go_roundw
              case rel => exact ⟨x + 1, by go_num, by omega, HOX.out, hB⟩
              case measure => simp [intOf]; omega
        · have hdi : decide ((x : Int) < (m : Int)) = false := by simp; omega
          have hxm : m = x := by omega
          subst hxm
          rw [← HLx.out, HME.out] at hO
          have hxl : Lx.length = MD.length := by rw [← HLx.out, HME.out]
          rw [hxl] at hlx9 ⊢
          have C := HIO.out wr _ hO.rw (by omega)
          have HC : Hid (Calls Try.prog 28 #[.slice oa MD.length oc] wr fun e w' => ∃ x Z, e = .returned x ∧ Ordd MD Z ∧ OR w' wr.heap.size x Z ∧ Below wr.heap.size wr w') := C
          have hsz : w.heap.size + 1 ≤ wr.heap.size := by have := hB.size; have := HZ0.out; omega
          generalize MD.length = mdl at *
          clear C hO hxl
          go_wp2_with (go_at_call 28; refine HC.out.mono ?_; rintro e w1 ⟨z, Z, rfl, hS, hO, hb1⟩; clear HC; have hB1 : Below (w.heap.size + 1) w0 w1 := hB.trans (hb1.mono hsz); rw [Hw0.out] at hB1; obtain ⟨za, zc, rfl⟩ := hO.cap; obtain ⟨hr, h7, hR, hb7⟩ := made_box (p := (n : Int)) (n := 0) hB1 hsz hO rfl; have H7 : Hid (_ ∧ _ ∧ _) := ⟨h7, hR, hb7⟩; have z0 := frozen_of_row _ _ 0 _ _ hr; have z1 := frozen_of_row _ _ 1 _ _ hr; have y0 := cell_of_row _ _ 0 _ _ _ hr; have y1 := cell_of_row _ _ 1 _ _ _ hr; have HSZ : Hid (Srtd ML Z) := HSD.out Z hS; generalize Z.length = zl at *; clear hr h7 hR hb7 hB1 hb1 hS hO)
          exact post_d2 2 3 rfl rfl H7.out.1 rfl rfl ⟨_, Z, rfl, HSZ.out, H7.out.2.1, H7.out.2.2⟩

end Go.Proofs.Ytdeofjmgjhfkcaa

namespace Go.Proofs.Ytdeofjmgjhfkcaa
open Go.RowKit

set_option maxRecDepth 100000 in
set_option maxHeartbeats 4000000 in
theorem MakeOf_far (v : Int) (w : World) (h : v < 1 ∨ 33 < v) :
    Calls Try.prog 10 #[.int .i64 v] w fun e w' => e = .returned (.tuple #[.agg #[.int .i64 0, .slice none 0 0], .int .i64 1]) ∧ Below w.heap.size w w' := by
  have hr := heap_alloc_new w (.cells #[.int .i64 0, .slice none 0 0] 24)
  have b1 := balloc w (.cells #[.int .i64 0, .slice none 0 0] 24)
  have h6 := heap_setCell_same _ w.heap.size 0 _ 24 (.int .i64 0) hr
  have h7 := heap_setCell_same _ w.heap.size 1 _ 24 (.slice none 0 0) h6
  have b7 := (b1.setCell (p := ⟨w.heap.size, 0, none⟩) (Nat.le_refl _) (.int .i64 0)).setCell (p := ⟨w.heap.size, 1, none⟩) (Nat.le_refl _) (.slice none 0 0)
  have H6 : Hid (_ ∧ Below w.heap.size w _) := ⟨h7, b7⟩
  have H1 : Hid (_ ∧ Below w.heap.size w _) := ⟨hr, b1⟩
  have z0 := frozen_of_row _ _ 0 _ _ hr
  have z1 := frozen_of_row _ _ 1 _ _ hr
  have y0 := cell_of_row _ _ 0 _ _ _ hr
  have y1 := cell_of_row _ _ 1 _ _ _ hr
  clear hr b1 h6 h7 b7
  by_cases h1 : v < 1
  · have hd : decide (v < 1) = true := by simp; omega
    go_enter Try.func10, Try.ntmps10
    go_wp2
    first
      | exact post_d2 2 3 rfl rfl H1.out.1 rfl rfl ⟨rfl, H1.out.2⟩
      | exact post_d2 2 3 rfl rfl (by simpa using H6.out.1) rfl rfl ⟨rfl, H6.out.2⟩
  · have hd : decide (v < 1) = false := by simp; omega
    have hd2 : decide (33 < v) = true := by simp; omega
    have h2 : 33 < v := by omega
    go_enter Try.func10, Try.ntmps10
    go_wp2
    first
      | exact post_d2 2 3 rfl rfl H1.out.1 rfl rfl ⟨rfl, H1.out.2⟩
      | exact post_d2 2 3 rfl rfl (by simpa using H6.out.1) rfl rfl ⟨rfl, H6.out.2⟩
set_option maxRecDepth 100000 in
set_option maxHeartbeats 4000000 in
theorem MakeOf_none (n : Nat) (w : World) (h0 : 1 ≤ n) (h3 : n ≤ 33) (h1 : n % 6 ≠ 1) (h2 : n % 6 ≠ 3) :
    Calls Try.prog 10 #[.int .i64 (n : Int)] w fun e w' => e = .returned (.tuple #[.agg #[.int .i64 0, .slice none 0 0], .int .i64 4]) ∧ Below w.heap.size w w' := by
  have hr := heap_alloc_new w (.cells #[.int .i64 0, .slice none 0 0] 24)
  have b1 := balloc w (.cells #[.int .i64 0, .slice none 0 0] 24)
  have h6 := heap_setCell_same _ w.heap.size 0 _ 24 (.int .i64 0) hr
  have h7 := heap_setCell_same _ w.heap.size 1 _ 24 (.slice none 0 0) h6
  have b7 := (b1.setCell (p := ⟨w.heap.size, 0, none⟩) (Nat.le_refl _) (.int .i64 0)).setCell (p := ⟨w.heap.size, 1, none⟩) (Nat.le_refl _) (.slice none 0 0)
  have H6 : Hid (_ ∧ Below w.heap.size w _) := ⟨h7, b7⟩
  have H1 : Hid (_ ∧ Below w.heap.size w _) := ⟨hr, b1⟩
  have z0 := frozen_of_row _ _ 0 _ _ hr
  have z1 := frozen_of_row _ _ 1 _ _ hr
  have y0 := cell_of_row _ _ 0 _ _ _ hr
  have y1 := cell_of_row _ _ 1 _ _ _ hr
  have hd1 : decide ((n : Int) < 1) = false := by simp; omega
  have hd2 : decide ((33 : Int) < (n : Int)) = false := by simp; omega
  have hd3 : ¬ (n : Int) < 1 := by omega
  have hd4 : ¬ (33 : Int) < (n : Int) := by omega
  have hm : (n : Int).tmod 6 = ((n % 6 : Nat) : Int) := by rw [Int.tmod_eq_emod_of_nonneg (by omega)]; rfl
  have hlt : n % 6 < 6 := Nat.mod_lt _ (by omega)
  have hq : (n : Int).tdiv 6 = ((n / 6 : Nat) : Int) := by rw [Int.tdiv_eq_ediv_of_nonneg (by omega)]; rfl
  have hq5 : n / 6 ≤ 5 := by omega
  generalize n / 6 = q at *
  generalize n % 6 = r at *
  have e1 : ((r : Int) == 1) = false := by simp; omega
  have e2 : ((r : Int) == 3) = false := by simp; omega
  have e3 : ¬ (r : Int) = 1 := by omega
  have e4 : ¬ (r : Int) = 3 := by omega
  clear hr b1 h6 h7 b7
  go_enter Try.func10, Try.ntmps10
  go_wp2
  first
    | exact post_d2 2 3 rfl rfl H1.out.1 rfl rfl ⟨rfl, H1.out.2⟩
    | exact post_d2 2 3 rfl rfl (by simpa using H6.out.1) rfl rfl ⟨rfl, H6.out.2⟩
theorem MakeOf_any (v : Int) (w : World) :
    Calls Try.prog 10 #[.int .i64 v] w fun e w' => ∃ x Z p f L, e = .returned (.tuple #[.agg #[.int .i64 p, x], .int .i64 f]) ∧ MkT v p f L ∧ Srtd L Z ∧ Rw w' x (toZ Z) ∧ Below w.heap.size w w' := by
  by_cases h : v < 1 ∨ 33 < v
  · refine (MakeOf_far v w h).mono ?_
    rintro e w' ⟨rfl, hb⟩
    exact ⟨_, [], 0, 1, [], rfl, .inl ⟨h, rfl, rfl, rfl⟩, Srtd.nil, (OR.nil w' 0).rw, hb⟩
  · obtain ⟨n, rfl⟩ : ∃ n : Nat, v = n := ⟨v.toNat, by omega⟩
    by_cases h1 : n % 6 = 1
    · refine (MakeOf_sk n w (by omega) (by omega) h1).mono ?_
      rintro e w' ⟨x, Z, rfl, hS, hR, hb⟩
      exact ⟨x, Z, n, 0, _, rfl, .inr ⟨n, rfl, by omega, by omega, .inl ⟨.inl h1, rfl, rfl, (if_pos h1).symm⟩⟩, hS, hR, hb⟩
    · by_cases h2 : n % 6 = 3
      · refine (MakeOf_bo n w (by omega) (by omega) h2).mono ?_
        rintro e w' ⟨x, Z, rfl, hS, hR, hb⟩
        exact ⟨x, Z, n, 0, _, rfl, .inr ⟨n, rfl, by omega, by omega, .inl ⟨.inr h2, rfl, rfl, (if_neg h1).symm⟩⟩, hS, hR, hb⟩
      · refine (MakeOf_none n w (by omega) (by omega) h1 h2).mono ?_
        rintro e w' ⟨rfl, hb⟩
        exact ⟨_, [], 0, 4, [], rfl, .inr ⟨n, rfl, by omega, by omega, .inr ⟨h1, h2, rfl, rfl, rfl⟩⟩, Srtd.nil, (OR.nil w' 0).rw, hb⟩

end Go.Proofs.Ytdeofjmgjhfkcaa

namespace Go.Proofs.Ytdeofjmgjhfkcaa
open Go.RowKit

theorem srt_short {L Z : List (List Nat)} (h3 : ∀ b ∈ L, b.length = 3) (hS : Srtd L Z) (h6 : L.length ≤ 6000) : (toZ Z).length ≤ maxLen ∧ ∀ l ∈ toZ Z, l.length ≤ maxLen := by
  refine ⟨by have := hS.len; simp [toZ]; unfold maxLen; omega, fun l hl => ?_⟩
  obtain ⟨b, hb, rfl⟩ := List.mem_map.1 hl
  have := h3 b (hS.perm.mem_iff.1 hb)
  rw [List.length_map]; unfold maxLen; omega
theorem boL_len {t : Nat} (h : t ≤ 5) : (boL t).length ≤ 6000 := by
  unfold boL
  rw [List.length_append, upL_len]
  have := slY_len (2 * t + 1) (boF t (2 * t + 1)) (2 * t + 1) (by omega)
  omega
theorem skL_len {t : Nat} (h : t ≤ 5) : (skL t).length ≤ 6000 := by
  unfold skL
  rw [List.length_append, skX_len]
  have := slY_len (2 * t) (skF t (2 * t)) (2 * t) (by omega)
  omega
theorem MkT.len {v p e : Int} {L : List (List Nat)} (h : MkT v p e L) : L.length ≤ 6000 := by
  rcases h with ⟨_, _, _, rfl⟩ | ⟨n, _, _, _, ⟨_, _, _, rfl⟩ | ⟨_, _, _, _, rfl⟩⟩
  · simp
  · unfold mkL
    by_cases h : n % 6 = 1
    · rw [if_pos h]; exact skL_len (by omega)
    · rw [if_neg h]; exact boL_len (by omega)
  · simp
theorem same_any (p : Int) (Z : List (List Nat)) (x y : Value) (w : World) (h1 : (toZ Z).length ≤ maxLen) (h2 : ∀ l ∈ toZ Z, l.length ≤ maxLen) (hx : Rw w x (toZ Z)) (hy : Rw w y (toZ Z)) :
    Calls Try.prog 11 #[.agg #[.int .i64 p, x], .agg #[.int .i64 p, y]] w fun e w' => e = .returned (.bool true) ∧ Below w.heap.size w w' := by
  refine (Designs_any p p (toZ Z) (toZ Z) x y w hx hy h1 h1 h2 h2).mono ?_
  rintro e w' ⟨b, rfl, hb, h⟩
  obtain rfl : b = true := hb.2 ⟨rfl, rfl⟩
  exact ⟨rfl, h⟩
theorem rw_form {w : World} {x : Value} {Z : List (List Nat)} (h : Rw w x (toZ Z)) : ∃ a c, x = .slice a Z.length c := by
  obtain ⟨a, c, e, _⟩ := h
  exact ⟨a, c, by rw [e]; simp [toZ]⟩
set_option maxRecDepth 100000 in
set_option maxHeartbeats 4000000 in
theorem Makes_law (v : Int) (w : World) : Calls Try.prog 3 #[.int .i64 v] w fun e w' => e = .returned (.bool true) ∧ Below w.heap.size w w' := by
  have C1 : Hid (∀ W, Calls Try.prog 9 #[.int .i64 v] W fun e w' => ∃ x Z p f L, e = .returned (.tuple #[.agg #[.int .i64 p, x], .int .i64 f]) ∧ MkT v p f L ∧ Srtd L Z ∧ Rw w' x (toZ Z) ∧ Below W.heap.size W w') := fun W => Make_any v W
  have C2 : Hid (∀ W, Calls Try.prog 10 #[.int .i64 v] W fun e w' => ∃ x Z p f L, e = .returned (.tuple #[.agg #[.int .i64 p, x], .int .i64 f]) ∧ MkT v p f L ∧ Srtd L Z ∧ Rw w' x (toZ Z) ∧ Below W.heap.size W w') := fun W => MakeOf_any v W
  have HDB : Hid (∀ (p : Int) (y : Value) (W0 W : World), Below (W0.alloc (.cells #[.int .i64 p, y] 24)).heap.size (W0.alloc (.cells #[.int .i64 p, y] 24)) W → W.cell? ⟨W0.heap.size, 0, none⟩ = some (.int .i64 p) ∧ W.cell? ⟨W0.heap.size, 1, none⟩ = some y) := fun p y W0 W h => des_box p y W0 W h
  go_enter Try.func3, Try.ntmps3
  go_wp2_with (first
    | (go_at_call 9; refine (C1.out _).mono ?_; rintro e w1 ⟨x, Z, p, f, L, rfl, hM, hS, hR, hB⟩; clear C1; obtain ⟨xa, xc, rfl⟩ := rw_form hR; have bb := balloc w1 (.cells #[.int .i64 p, .slice xa Z.length xc] 24); have HM : Hid (MkT v p f L ∧ Srtd L Z) := ⟨hM, hS⟩; have HR : Hid (Rw (w1.alloc (.cells #[.int .i64 p, .slice xa Z.length xc] 24)) (.slice xa Z.length xc) (toZ Z)) := hR.below bb; have HB : Hid (Below w.heap.size w (w1.alloc (.cells #[.int .i64 p, .slice xa Z.length xc] 24))) := Below.next hB bb; clear hM hS hR hB bb)
    | (go_at_call 10; refine (C2.out _).mono ?_; rintro e w2 ⟨y, Z', p', f', L', rfl, hM, hS, hR, hB⟩; clear C2; obtain ⟨rfl, rfl, rfl⟩ := HM.out.1.one hM; obtain rfl := Srtd.one hM.three HM.out.2 hS; obtain ⟨ya, yc, rfl⟩ := rw_form hR; have bb := balloc w2 (.cells #[.int .i64 p, .slice ya Z.length yc] 24); obtain ⟨hk0, hk1⟩ := HDB.out p (.slice xa Z.length xc) w1 _ (Below.next hB bb); obtain ⟨hj0, hj1⟩ := HDB.out p (.slice ya Z.length yc) w2 _ (Below.refl _ _); have HR2 : Hid (Rw (w2.alloc (.cells #[.int .i64 p, .slice ya Z.length yc] 24)) (.slice ya Z.length yc) (toZ Z)) := hR.below bb; have HR1 : Hid (Rw (w2.alloc (.cells #[.int .i64 p, .slice ya Z.length yc] 24)) (.slice xa Z.length xc) (toZ Z)) := HR.out.below (Below.next hB bb); have HB2 : Hid (Below w.heap.size w (w2.alloc (.cells #[.int .i64 p, .slice ya Z.length yc] 24))) := Below.next HB.out (Below.next hB bb); have HSH := srt_short hM.three hS hM.len; have HSA : Hid (Calls Try.prog 11 #[.agg #[.int .i64 p, .slice xa Z.length xc], .agg #[.int .i64 p, .slice ya Z.length yc]] (w2.alloc (.cells #[.int .i64 p, .slice ya Z.length yc] 24)) fun e w' => e = .returned (.bool true) ∧ Below (w2.alloc (.cells #[.int .i64 p, .slice ya Z.length yc] 24)).heap.size (w2.alloc (.cells #[.int .i64 p, .slice ya Z.length yc] 24)) w') := same_any p Z _ _ _ HSH.1 HSH.2 HR1.out HR2.out; generalize Z.length = zl at *; clear hM hS hR hB bb HM HR HB HR1 HR2 HSH)
    | (go_at_call 11; refine HSA.out.mono ?_; rintro e w3 ⟨rfl, hb3⟩; clear HSA))
  go_ret
  exact ⟨rfl, Below.next HB2.out hb3⟩
theorem Makes_end (a : Int) (W : World) (_ : (Lit.int .i64 a).wf = true) : Calls Try.prog 3 #[.int .i64 a] W fun e w' => e = .returned (.bool true) ∧ Below W.heap.size W w' := Makes_law a W

end Go.Proofs.Ytdeofjmgjhfkcaa
