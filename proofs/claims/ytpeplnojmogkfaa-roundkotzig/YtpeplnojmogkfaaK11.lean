/- opposites, Circle, Develop, walked. -/
import Derived.Test.YtpeplnojmogkfaaK10
namespace Go.Proofs.Ytpeplnojmogkfaa
open Go.RowKit Go.Maps

theorem Develop_any : FDevelop := by
  intro v ps u w hv
  have CC := Starter_any v ps u w hv
  obtain ⟨z, Hz⟩ : ∃ z, Hid (sF v ps = z) := ⟨_, rfl⟩
  rw [Hz.out] at CC ⊢
  by_cases hz : z = 0
  · subst hz
    obtain ⟨V, qs, rfl, rfl, hS⟩ := sF_ok Hz.out
    have hrw := hv.rw
    obtain ⟨a, n, c, rfl⟩ := hv.form
    have hV3 := hS.v3
    have CD := fun (W : World) (bW : Below w.heap.size w W) => developed_any V qs _ W (hrw.below bW) (by omega) hS.v15 (by have := hS.len; have := hS.v15; omega) fun p hp => ⟨(hS.rng p hp).1.2, (hS.rng p hp).2.2⟩
    have HE : Hid (dvZ (V : Int) (prZ qs) = toZ (dvR V qs)) := dvZ_good hS
    clear hv hrw hS
    rw [HE.out]
    go_enter Try.func20, Try.ntmps20
    go_wp2_with (first
      | (go_at_call 18; refine CC.mono ?_; rintro e w1 ⟨rfl, b1⟩; clear CC)
      | (go_at_call 32; refine (CD _ b1).mono ?_; rintro e w3 ⟨⟨y, rfl, hy⟩, b3⟩; clear CD))
    go_ret2
    exact ⟨⟨y, rfl, hy⟩, b1.trans (b3.mono b1.size)⟩
  · have HE : Hid (dvZ v ps = []) := by show _ = _; unfold dvZ; rw [if_neg (by rw [Hz.out]; exact hz)]
    obtain ⟨a, m, c, rfl⟩ := hv.form
    have hzb : ((z : Int) != 0) = true := by simp; omega
    clear hv hz
    rw [HE.out]
    go_enter Try.func20, Try.ntmps20
    go_wp2_with (go_at_call 18; refine CC.mono ?_; rintro e w1 ⟨rfl, b1⟩; clear CC)
    go_ret2
    exact ⟨⟨_, rfl, none, 0, rfl, Nat.le_refl _, fun i l hi => by simp at hi⟩, b1⟩
/-- Numbers and their opposites. -/
def opQ (v k : Nat) : List (Nat × Nat) := (List.range k).map fun j => (j + 1, v - (j + 1))
def opR (v k : Nat) : List (List Nat) := (List.range k).map fun j => [j + 1, v - (j + 1)]
theorem opR_more (v k : Nat) : opR v (k + 1) = opR v k ++ [[k + 1, v - (k + 1)]] := by unfold opR; rw [List.range_succ, List.map_append]; rfl
theorem opR_len (v k : Nat) : (opR v k).length = k := by simp [opR]
theorem opR_prZ (v k : Nat) : toZ (opR v k) = prZ (opQ v k) := by
  unfold toZ opR prZ opQ
  rw [List.map_map, List.map_map]
  rfl
theorem own_two (w : World) (base x y : Nat) (hb : base ≤ w.heap.size) : ORow (w.alloc (.cells #[.int .i64 (x : Int), .int .i64 (y : Int)] 3)) base (.slice (some ⟨w.heap.size, 0, none⟩) 2 2) [x, y] :=
  ⟨rfl, .inr ⟨w.heap.size, 2, #[.int .i64 (x : Int), .int .i64 (y : Int)], rfl, hb, heap_alloc_new w _, Nat.le_refl _, by unfold maxLen; omega, rfl, rfl⟩⟩
set_option maxRecDepth 100000 in
set_option maxHeartbeats 8000000 in
theorem opposites_any (v : Nat) (w : World) (hv : v ≤ 15) :
    Calls Try.prog 33 #[.int .i64 (v : Int)] w fun e w' => (∃ y, e = .returned y ∧ OR w' w.heap.size y (opR v ((v - 1) / 2))) ∧ Below w.heap.size w w' := by
  obtain ⟨i36, ji3, jz0, jz1, jz2⟩ := info36
  go_enter Try.func33, Try.ntmps33
  go_wp2
  go_loopw [3, 4] (fun ov xv wr => ∃ (k x : Nat) (oa : Option Addr) (oc : Nat), xv = .int .i64 (x : Int) ∧ ov = .slice oa k oc ∧ x ≤ 8 ∧ Hid (x = k + 1) ∧ Hid (k ≤ (v - 1) / 2) ∧ OR wr w.heap.size (.slice oa k oc) (opR v k) ∧ Below w.heap.size w wr) (fun _ xv _ => (16 - intOf xv).toNat)
  case atStart => exact ⟨0, 1, none, 0, rfl, rfl, by omega, rfl, Nat.zero_le _, OR.nil _ _, Below.refl _ _⟩
  case round =>
    obtain ⟨k, x, oa, oc, rfl, rfl, hx8, HX, HK, hO, hB⟩ := hrel
    by_cases hlt : x < v - x
    · have hd : decide ((x : Int) < (v : Int) - (x : Int)) = true := by simp; omega
      have hx7 : x + 1 ≤ 8 := by omega
      have HX2 : Hid (x + 1 = k + 1 + 1) := by show _ = _; rw [HX.out]
      have HK2 : Hid (k + 1 ≤ (v - 1) / 2) := by have := HX.out; show _ ≤ _; omega
      obtain ⟨y, Hy⟩ : ∃ y, Hid (v - x = y) := ⟨_, rfl⟩
      have hyi : (v : Int) - (x : Int) = (y : Int) := by rw [← Hy.out]; omega
      have HTS : Hid (opR v (k + 1) = opR v k ++ [[x, y]]) := by show _ = _; rw [opR_more, ← HX.out, Hy.out]
      have hk9 : k ≤ 9 := by have := HX.out; omega
      have hsz := hB.size
      have hrow := own_two wr w.heap.size x y hsz
      have hal1 := balloc wr (.cells #[.int .i64 (x : Int), .int .i64 (y : Int)] 3)
      obtain ⟨vals, h1, h2'⟩ := hO.below hal1
      have HH1 : Hid ((wr.alloc (.cells #[.int .i64 (x : Int), .int .i64 (y : Int)] 3)).ownsRow w.heap.size 38 1 (.slice oa k oc) (opR v k).length vals) := h1
      have HH2 : Hid (∀ (i_1 : Nat) (u : Value) (l : List Nat), vals[i_1]? = some u → (opR v k)[i_1]? = some l → ORow (wr.alloc (.cells #[.int .i64 (x : Int), .int .i64 (y : Int)] 3)) w.heap.size u l) := h2'
      rw [opR_len] at h1
      have hyw : IntKind.i64.wrap (y : Int) = (y : Int) := by rw [IntKind.wrap_i64]; omega
      clear h2' hO
      go_wp2_with (first
        | (at_builtin; refine wpList_append_own _ rfl _ _ 22 rfl w.heap.size 38 i36 (.slice none 0 0) 1 24 undR ji3 jz0 jz1 jz2 rfl (by decide) _ _ _ rfl (h1.alloc _) ⟨wr.heap.size + 1, 0, none⟩ 1 1 [.slice (some ⟨wr.heap.size, 0, none⟩) 2 2] rfl rfl ?c1 ?c2 ?c3 ?c4 ?c5 ?_)
        | go_in)
      case c1 =>
        intro j u hj
        match j, hj with
        | 0, hj => simp at hj; subst hj; simp [Addr.add]
      case c2 => intro u hu; simp at hu; subst hu; rfl
      case c3 => unfold maxLen; omega
      case c4 => omega
      case c5 => simp; omega
      · intro v' w7 hown' hgrow _
        have hal := balloc (wr.alloc (.cells #[.int .i64 (x : Int), .int .i64 (y : Int)] 3)) (.cells #[.slice (some ⟨wr.heap.size, 0, none⟩) 2 2] 38)
        have hB1 : Below w.heap.size w (wr.alloc (.cells #[.int .i64 (x : Int), .int .i64 (y : Int)] 3)) := hB.trans (hal1.mono hsz)
        have hB2 : Below w.heap.size w w7 := (hB1.trans (hal.mono hB1.size)).grown hgrow (by simp; omega) (fun k hk => (h1.lt k hk).1)
        have hO2 : OR w7 w.heap.size v' (opR v k ++ [[x, y]]) := OR.more (own_keep HH1.out fun b _ hb => hal.block b hb) (fun i_1 u l' e1 e2 => (HH2.out i_1 u l' e1 e2).below hal) (hrow.below hal) (by rw [opR_len]; exact hown') hgrow
        rw [← HTS.out] at hO2
        obtain ⟨va, vc, rfl⟩ := own_form hown'
        go_wp2
        go_roundw
        case rel => exact ⟨k + 1, x + 1, va, vc, by go_num, rfl, hx7, HX2, HK2, hO2, hB2⟩
        case measure => simp [intOf]; omega
    · have hd : decide ((x : Int) < (v : Int) - (x : Int)) = false := by simp; omega
      have HE : Hid ((v - 1) / 2 = k) := by have := HK.out; have := HX.out; show _ = _; omega
      go_wp2
      go_ret
      exact ⟨⟨_, rfl, by rw [HE.out]; exact hO⟩, hB⟩
theorem dv_circle {n : Nat} (h : Evn n) : dvR (n - 1) (opQ (n - 1) ((n - 1 - 1) / 2)) = crL n := by
  rcases h with rfl | rfl | rfl | rfl | rfl | rfl | rfl | rfl <;> decide +kernel
end Go.Proofs.Ytpeplnojmogkfaa
