/- The walk of the document's TripleFault. -/
import Derived.Test.YtdeofjmgjhfkcaaE9
import Derived.Test.YtdeofjmgjhfkcaaTDou
/- The walks of isSystem and Check. -/
namespace Go.Proofs.Ytdeofjmgjhfkcaa
open Go.RowKit

theorem sys_one {B : List (List Nat)} : Sys 1 B ↔ B = [] := by
  constructor
  · intro h
    rcases B with _ | ⟨b, B⟩
    · rfl
    · have h1 := (h.bl b (by simp)).le
      have h2 := h.sz b (by simp)
      omega
  · rintro rfl
    exact ⟨fun b hb => by simp at hb, fun b hb => by simp at hb, fun p q hp hq hn => by omega⟩
theorem sys_lev {v : Nat} {B : List (List Nat)} (hB : Bls v B) (hv : 2 ≤ v) : Sys v B ↔ LvOk v B 2 3 1 := by
  constructor
  · intro h
    refine ⟨fun e => ?_, h.sz, fun s hs hl => ?_⟩
    · have := h.l2 0 1 (by omega) (by omega) (by omega)
      rw [e] at this
      simp [nb] at this
    · match s, hl with
      | [p, q], _ => exact h.l2 p q (hs.lt p (by simp)) (hs.lt q (by simp)) (by have := hs.1; simp at this; exact this)
  · intro h
    refine ⟨hB, h.2.1, fun p q hp hq hn => h.2.2 [p, q] ⟨by simp [hn], fun x hx => ?_⟩ rfl⟩
    have : x = p ∨ x = q := by simpa using hx
    rcases this with rfl | rfl <;> assumption
theorem toZ_inj : ∀ {A B : List (List Nat)}, toZ A = toZ B → A = B
  | [], [], _ => rfl
  | [], _ :: _, h => by simp [toZ] at h
  | _ :: _, [], h => by simp [toZ] at h
  | a :: A, b :: B, h => by
    have h1 : (a.map Int.ofNat = b.map Int.ofNat) ∧ toZ A = toZ B := by simpa [toZ] using h
    have e : ∀ {s t : List Nat}, s.map Int.ofNat = t.map Int.ofNat → s = t := by
      intro s t h
      have := congrArg (List.map Int.toNat) h
      simpa [List.map_map, Function.comp_def] using this
    rw [e h1.1, toZ_inj h1.2]
/-- What is wrong with a system. -/
def TfT (p : Int) (ls : List (List Int)) (e : Int) : Prop := (dF p ls ≠ 0 ∧ e = (dF p ls : Int)) ∨ (∃ v B, p = ((v : Nat) : Int) ∧ ls = toZ B ∧ GoodD v B ∧ ((Sys v B ∧ e = 0) ∨ (¬ Sys v B ∧ e = 4)))
theorem TfT.one {p e e' : Int} {ls : List (List Int)} (hz : ∀ v B, p = ((v : Nat) : Int) → ls = toZ B → GoodD v B → dF p ls = 0) (h : TfT p ls e) (h' : TfT p ls e') : e = e' := by
  rcases h with ⟨a, rfl⟩ | ⟨v, B, e1, e2, G, h⟩
  · rcases h' with ⟨_, rfl⟩ | ⟨v, B, e1, e2, G, _⟩
    · rfl
    · exact (a (hz v B e1 e2 G)).elim
  · rcases h' with ⟨a, _⟩ | ⟨v', B', e1', e2', _, h'⟩
    · exact (a (hz v B e1 e2 G)).elim
    · obtain rfl : v = v' := by omega
      obtain rfl := toZ_inj (e2.symm.trans e2')
      rcases h with ⟨a, rfl⟩ | ⟨a, rfl⟩ <;> rcases h' with ⟨b, rfl⟩ | ⟨b, rfl⟩
      · rfl
      · exact (b a).elim
      · exact (a b).elim
      · rfl
open Classical in
set_option maxRecDepth 100000 in
set_option maxHeartbeats 4000000 in
theorem isSystem_any (v : Nat) (B : List (List Nat)) (u : Value) (w : World) (G : GoodD v B) (hu : Rw w u (toZ B)) :
    Calls Try.prog 33 #[.agg #[.int .i64 (v : Int), u]] w fun e w' => e = .returned (.bool (decide (Sys v B))) ∧ Below w.heap.size w w' := by
  have HC : Hid (∀ W, Below (w.alloc (.cells #[.int .i64 (v : Int), u] 24)).heap.size (w.alloc (.cells #[.int .i64 (v : Int), u] 24)) W → W.cell? ⟨w.heap.size, 0, none⟩ = some (.int .i64 (v : Int)) ∧ W.cell? ⟨w.heap.size, 1, none⟩ = some u) := des_box v u w
  have b0 := balloc w (.cells #[.int .i64 (v : Int), u] 24)
  obtain ⟨x0, x1⟩ := HC.out _ (Below.refl _ _)
  obtain ⟨a, c, e, _⟩ := hu.below b0
  have el : (toZ B).length = B.length := by simp [toZ]
  rw [el] at e
  have hv40 := G.le
  have hb2 := G.few
  by_cases h1 : v = 1
  · have hs : decide (Sys v B) = decide (B.length = 0) := by
      rw [h1]
      simp only [sys_one, List.length_eq_zero_iff]
    rw [hs]
    subst e
    have hv1 : ((v : Int) == 1) = true := by simp; omega
    have HB0 : Hid (Below w.heap.size w (w.alloc (.cells #[.int .i64 (v : Int), .slice a B.length c] 24))) := b0
    obtain ⟨n, hn⟩ : ∃ n, B.length = n := ⟨_, rfl⟩
    rw [hn] at x1 HB0 hb2 ⊢
    clear hs h1 HC b0 hn hu
    go_enter Try.func33, Try.ntmps33
    go_wp2
    go_ret
    refine ⟨?_, HB0.out⟩
    by_cases h0 : n = 0
    · subst h0; rfl
    · have e1 : ((n : Int) == 0) = false := by simp; omega
      simp [h0]
  · have G1 : 1 ≤ v := G.pos
    have C := Level_any v 2 B u _ G (hu.below b0)
    have hv1 : ((v : Int) == 1) = false := by simp; omega
    have hv2 : ¬ (v : Int) = 1 := by omega
    have HL : Hid (∀ e, LvT v B 2 e → ∃ k l f : Nat, e = .returned (.tuple #[.int .i64 (k : Int), .int .i64 (l : Int), .int .i64 (f : Int)]) ∧ (decide (Sys v B) = (((f : Int) == 0) && ((k : Int) == 3) && ((l : Int) == 1)))) := fun e h => by
      rcases h with ⟨h, _⟩ | ⟨m, hm, _, _, h⟩
      · omega
      · obtain rfl : m = 2 := by omega
        rcases h with ⟨k, l, ho, rfl⟩ | ⟨hn, rfl⟩
        · refine ⟨k, l, 0, rfl, ?_⟩
          by_cases hs : Sys v B
          · obtain ⟨rfl, rfl⟩ := ho.one (by omega) ((sys_lev G.bls (by omega)).1 hs)
            simp [hs]
          · have : ¬ (k = 3 ∧ l = 1) := fun ⟨e1, e2⟩ => hs ((sys_lev G.bls (by omega)).2 (by rw [← e1, ← e2]; exact ho))
            simp [hs]
            intro e1 e2
            exact this ⟨by omega, by omega⟩
        · refine ⟨0, 0, 4, rfl, ?_⟩
          have hs : ¬ Sys v B := fun hs => hn ⟨3, 1, (sys_lev G.bls (by omega)).1 hs⟩
          simp [hs]
    obtain ⟨S, hS⟩ : ∃ S : Bool, decide (Sys v B) = S := ⟨_, rfl⟩
    rw [hS] at HL ⊢
    have HCL : Hid (Calls Try.prog 24 #[.agg #[.int .i64 (v : Int), u], .int .i64 2] (w.alloc (.cells #[.int .i64 (v : Int), u] 24)) fun e w' => LvT v B 2 e ∧ Below (w.alloc (.cells #[.int .i64 (v : Int), u] 24)).heap.size (w.alloc (.cells #[.int .i64 (v : Int), u] 24)) w') := C
    have HB0 : Hid (Below w.heap.size w (w.alloc (.cells #[.int .i64 (v : Int), u] 24))) := b0
    subst e
    clear hS h1 HC b0 hu C
    go_enter Try.func33, Try.ntmps33
    go_wp2_with (go_at_call 24; refine HCL.out.mono ?_; rintro e w1 ⟨hl, hb⟩; obtain ⟨k, l, f, rfl, hS⟩ := HL.out e hl; have HB1 : Hid (Below w.heap.size w w1) := Below.next HB0.out hb; have HS : Hid (S = (((f : Int) == 0) && ((k : Int) == 3) && ((l : Int) == 1))) := hS; clear hl hb HL HCL hS)
    all_goals
      go_ret
      refine ⟨?_, HB1.out⟩
      rw [HS.out]
      simp_all
open Classical in
set_option maxRecDepth 100000 in
set_option maxHeartbeats 4000000 in
theorem TCheck_any (p : Int) (ls : List (List Int)) (v : Value) (w : World) (hv : Rw w v ls) (hl : ls.length ≤ maxLen) (hll : ∀ l ∈ ls, l.length ≤ maxLen) :
    Calls Try.prog 13 #[.agg #[.int .i64 p, v]] w fun e w' => ∃ f, e = .returned (.int .i64 f) ∧ TfT p ls f ∧ Below w.heap.size w w' := by
  have HC : Hid (∀ W, Below (w.alloc (.cells #[.int .i64 p, v] 24)).heap.size (w.alloc (.cells #[.int .i64 p, v] 24)) W → W.cell? ⟨w.heap.size, 0, none⟩ = some (.int .i64 p) ∧ W.cell? ⟨w.heap.size, 1, none⟩ = some v) := des_box p v w
  have b0 := balloc w (.cells #[.int .i64 p, v] 24)
  have HB0 : Hid (Below w.heap.size w (w.alloc (.cells #[.int .i64 p, v] 24))) := b0
  have C1 : Hid (Calls Try.prog 32 #[.agg #[.int .i64 p, v]] (w.alloc (.cells #[.int .i64 p, v] 24)) fun e w' => e = .returned (.int .i64 (dF p ls : Int)) ∧ Below (w.alloc (.cells #[.int .i64 p, v] 24)).heap.size (w.alloc (.cells #[.int .i64 p, v] 24)) w') := Check_any p ls v _ (hv.below b0) hl hll
  obtain ⟨x0, x1⟩ := HC.out _ (Below.refl _ _)
  by_cases hz : dF p ls = 0
  · obtain ⟨n, B, rfl, rfl, G⟩ := dF_ok hz
    rw [hz] at C1
    have HV : Hid (∀ W, Below w.heap.size w W → Rw W v (toZ B)) := fun W b => hv.below b
    obtain ⟨a, c, e, _⟩ := hv
    subst e
    generalize (toZ B).length = bl at *
    clear b0 hl hll
    by_cases hs : Sys n B
    · have HT : Hid (TfT (n : Int) (toZ B) 0) := .inr ⟨n, B, rfl, rfl, G, .inl ⟨hs, rfl⟩⟩
      have C2 : Hid (∀ W, Below w.heap.size w W → Calls Try.prog 33 #[.agg #[.int .i64 (n : Int), .slice a bl c]] W fun e w' => e = .returned (.bool true) ∧ Below W.heap.size W w') := fun W b => by
        have := isSystem_any n B _ W G (HV.out W b)
        rw [decide_eq_true hs] at this
        exact this
      clear hs hz
      go_enter Try.func13, Try.ntmps13
      go_wp2_with (first
        | (go_at_call 32; refine C1.out.mono ?_; rintro e w1 ⟨rfl, hb⟩; clear C1; obtain ⟨y0, y1⟩ := HC.out _ hb; have HB1 : Hid (Below w.heap.size w w1) := Below.next HB0.out hb; clear hb)
        | (go_at_call 33; refine (C2.out _ HB1.out).mono ?_; rintro e w2 ⟨rfl, hb⟩; clear C2; have HB2 : Hid (Below w.heap.size w w2) := Below.next HB1.out hb; clear hb))
      go_ret
      exact ⟨0, rfl, HT.out, HB2.out⟩
    · have HT : Hid (TfT (n : Int) (toZ B) 4) := .inr ⟨n, B, rfl, rfl, G, .inr ⟨hs, rfl⟩⟩
      have C2 : Hid (∀ W, Below w.heap.size w W → Calls Try.prog 33 #[.agg #[.int .i64 (n : Int), .slice a bl c]] W fun e w' => e = .returned (.bool false) ∧ Below W.heap.size W w') := fun W b => by
        have := isSystem_any n B _ W G (HV.out W b)
        rw [decide_eq_false hs] at this
        exact this
      clear hs hz
      go_enter Try.func13, Try.ntmps13
      go_wp2_with (first
        | (go_at_call 32; refine C1.out.mono ?_; rintro e w1 ⟨rfl, hb⟩; clear C1; obtain ⟨y0, y1⟩ := HC.out _ hb; have HB1 : Hid (Below w.heap.size w w1) := Below.next HB0.out hb; clear hb)
        | (go_at_call 33; refine (C2.out _ HB1.out).mono ?_; rintro e w2 ⟨rfl, hb⟩; clear C2; have HB2 : Hid (Below w.heap.size w w2) := Below.next HB1.out hb; clear hb))
      go_ret
      exact ⟨4, rfl, HT.out, HB2.out⟩
  · have HT : Hid (TfT p ls (dF p ls : Int)) := .inl ⟨hz, rfl⟩
    obtain ⟨a, c, e, _⟩ := hv
    subst e
    obtain ⟨z, Hz⟩ : ∃ z, Hid (dF p ls = z) := ⟨_, rfl⟩
    rw [Hz.out] at C1 HT hz
    have h1 : ((z : Int) != 0) = true := by simp; omega
    have h2 : ¬ (z : Int) = 0 := by omega
    generalize ls.length = bl at *
    clear b0 hl hll
    go_enter Try.func13, Try.ntmps13
    go_wp2_with (go_at_call 32; refine C1.out.mono ?_; rintro e w1 ⟨rfl, hb⟩; clear C1; have HB1 : Hid (Below w.heap.size w w1) := Below.next HB0.out hb; clear hb)
    go_ret
    exact ⟨_, rfl, HT.out, HB1.out⟩

end Go.Proofs.Ytdeofjmgjhfkcaa

namespace Go.Proofs.Ytdeofjmgjhfkcaa
open Go.RowKit

def cnT (B : List (List Nat)) (x y i : Nat) : Nat := (B.take i).countP fun b => b.contains x && b.contains y
theorem cnT_all (B : List (List Nat)) (x y : Nat) : cnT B x y B.length = nb B [x, y] := by
  unfold cnT nb
  rw [List.take_length]
  exact List.countP_congr fun b _ => by simp
theorem cnT_succ {B : List (List Nat)} {x y i : Nat} {b : List Nat} (h : B[i]? = some b) : cnT B x y (i + 1) = cnT B x y i + if (b.contains x && b.contains y) = true then 1 else 0 := by
  unfold cnT
  rw [List.take_add_one, h, List.countP_append]
  simp [List.countP_cons]
theorem cnT_le (B : List (List Nat)) (x y i : Nat) : cnT B x y i ≤ i := by
  unfold cnT
  have := List.countP_le_length (p := fun b : List Nat => b.contains x && b.contains y) (l := B.take i)
  rw [List.length_take] at this
  omega
theorem sys_of {v : Nat} {B : List (List Nat)} (G : GoodD v B) (h3 : ∀ b ∈ B, b.length = 3) (h : ∀ x, x < v → ∀ y, y < x → nb B [x, y] = 1) : Sys v B := by
  refine ⟨G.bls, h3, fun p q hp hq hn => ?_⟩
  rcases Nat.lt_or_gt_of_ne hn with e | e
  · rw [nb_swap]; exact h q hq p e
  · exact h p hp q e
set_option maxRecDepth 100000 in
set_option maxHeartbeats 8000000 in
theorem Fault_main (v : Nat) (B : List (List Nat)) (u : Value) (w : World) (G : GoodD v B) (hz : dF (v : Int) (toZ B) = 0) (hu : Rw w u (toZ B)) :
    Calls Try.prog 12 #[.agg #[.int .i64 (v : Int), u]] w fun e w' => ∃ f, e = .returned (.int .i64 f) ∧ TfT (v : Int) (toZ B) f ∧ Below w.heap.size w w' := by
  have HC : Hid (∀ W, Below (w.alloc (.cells #[.int .i64 (v : Int), u] 24)).heap.size (w.alloc (.cells #[.int .i64 (v : Int), u] 24)) W → W.cell? ⟨w.heap.size, 0, none⟩ = some (.int .i64 (v : Int)) ∧ W.cell? ⟨w.heap.size, 1, none⟩ = some u) := des_box v u w
  have b0 := balloc w (.cells #[.int .i64 (v : Int), u] 24)
  have HB0 : Hid (Below w.heap.size w (w.alloc (.cells #[.int .i64 (v : Int), u] 24))) := b0
  have hv40 := G.le
  have h200 := G.few
  have hlz : (toZ B).length ≤ maxLen := by simp [toZ]; unfold maxLen; omega
  have hlz2 : ∀ l ∈ toZ B, l.length ≤ maxLen := fun l hl => by
    obtain ⟨b, hb, rfl⟩ := List.mem_map.1 hl
    have := G.len hb
    rw [List.length_map]; unfold maxLen; omega
  have C1 : Hid (Calls Try.prog 30 #[.agg #[.int .i64 (v : Int), u]] (w.alloc (.cells #[.int .i64 (v : Int), u] 24)) fun e w' => e = .returned (.int .i64 ((0 : Nat) : Int)) ∧ Below (w.alloc (.cells #[.int .i64 (v : Int), u] 24)).heap.size (w.alloc (.cells #[.int .i64 (v : Int), u] 24)) w') := by
    have := DesignFault_any v (toZ B) u _ (hu.below b0) hlz hlz2
    rw [hz] at this
    exact this
  obtain ⟨x0, x1⟩ := HC.out _ (Below.refl _ _)
  obtain ⟨a, c, rfl, hD⟩ := drow_of hu
  have HD : Hid (DRow w a B) := hD
  have HAT : Hid (∀ i, i < B.length → ∃ b, B[i]? = some b ∧ b ∈ B ∧ b.length ≤ 40) := fun i hi => ⟨_, List.getElem?_eq_getElem hi, List.getElem_mem hi, G.len (List.getElem_mem hi)⟩
  have HNO : Hid ((∃ b, b ∈ B ∧ b.length ≠ 3) → TfT (v : Int) (toZ B) 4) := fun ⟨b, hb, h⟩ => .inr ⟨v, B, rfl, rfl, G, .inr ⟨fun s => h (s.sz b hb), rfl⟩⟩
  have HN2 : Hid (∀ x y, x < v → y < x → nb B [x, y] ≠ 1 → TfT (v : Int) (toZ B) 4) := fun x y h1 h2 h => .inr ⟨v, B, rfl, rfl, G, .inr ⟨fun s => h (s.l2 x y h1 (by omega) (by omega)), rfl⟩⟩
  have HYES : Hid ((∀ i b, i < B.length → B[i]? = some b → b.length = 3) → (∀ x, x < v → ∀ y, y < x → nb B [x, y] = 1) → TfT (v : Int) (toZ B) 0) := fun h1 h2 => .inr ⟨v, B, rfl, rfl, G, .inl ⟨sys_of G (fun b hb => by
    obtain ⟨i, hi, rfl⟩ := List.mem_iff_getElem.1 hb
    exact h1 i _ hi (List.getElem?_eq_getElem hi)) h2, rfl⟩⟩
  have HCA : Hid (∀ x y, cnT B x y B.length = nb B [x, y]) := cnT_all B
  have HCS : Hid (∀ (x y i : Nat) (b : List Nat), B[i]? = some b → cnT B x y (i + 1) = cnT B x y i + if (b.contains x && b.contains y) = true then 1 else 0) := fun x y i b h => cnT_succ h
  have HCL : Hid (∀ x y i, cnT B x y i ≤ i) := cnT_le B
  obtain ⟨T, HT⟩ : ∃ T, Hid (T = TfT (v : Int) (toZ B)) := ⟨_, rfl⟩
  rw [← HT.out] at HNO HN2 HYES ⊢
  generalize hBn : B.length = n at *
  clear hu hD b0 hz hlz hlz2 G
  go_enter Try.func12, Try.ntmps12
  go_wp2_with (go_at_call 30; refine C1.out.mono ?_; rintro e w1 ⟨rfl, hb⟩; clear C1; obtain ⟨y0, y1⟩ := HC.out _ hb; have HB1 : Hid (Below w.heap.size w w1) := Below.next HB0.out hb; clear hb x0 x1 HC HB0)
  go_loopw [4] (fun iv wr => ∃ (i : Nat), iv = .int .i64 (i : Int) ∧ i ≤ n ∧ Hid (∀ j b, j < i → B[j]? = some b → b.length = 3) ∧ wr = w1) (fun iv _ => (n - intOf iv).toNat)
  case atStart => exact ⟨0, rfl, by omega, fun j b hj => by omega, rfl⟩
  case round =>
    obtain ⟨i, rfl, hi, HI, hw⟩ := hrel
    replace hw := hw.symm
    subst hw
    by_cases hlt : i < n
    · have hdi : decide ((i : Int) < (n : Int)) = true := by simp; omega
      have hii : (i : Int) < (n : Int) := by omega
      obtain ⟨b, hbi, hbm, hb40⟩ := HAT.out i hlt
      obtain ⟨bb, off, ua, uc, rfl, hrow⟩ := HD.out i b hbi
      obtain ⟨r0, _⟩ := hrow _ HB1.out
      by_cases h3 : b.length = 3
      · rw [h3] at r0
        have HI2 : Hid (∀ j b, j < i + 1 → B[j]? = some b → b.length = 3) := fun j b' hj hb' => by
          by_cases e : j = i
          · subst e; rw [hbi] at hb'; cases hb'; exact h3
          · exact HI.out j b' (by omega) hb'
        clear hbi hbm hb40 hrow h3 HI
        go_wp2
        go_roundw
        case rel => exact ⟨i + 1, by go_num, by omega, HI2, trivial⟩
        case measure => simp [intOf]; omega
      · have hT := HNO.out ⟨b, hbm, h3⟩
        have h31 : ((b.length : Int) != 3) = true := by simp; omega
        have h32 : ¬ (b.length : Int) = 3 := by omega
        have h33 : ¬ b.length = 3 := h3
        generalize b.length = bn at *
        clear hbi hbm hrow HI
        go_wp2
        go_ret
        exact ⟨4, rfl, hT, HB1.out⟩
    · have hdi : decide ((i : Int) < (n : Int)) = false := by simp; omega
      have hin : n = i := by omega
      subst hin
      go_wp2
      go_loopw [5] (fun xv wr' => ∃ (x : Nat), xv = .int .i64 (x : Int) ∧ x ≤ v ∧ Hid (∀ x', x' < x → ∀ y, y < x' → nb B [x', y] = 1) ∧ wr' = w1) (fun xv _ => (v - intOf xv).toNat)
      case atStart => exact ⟨0, rfl, by omega, fun x' hx => by omega, rfl⟩
      case round =>
        obtain ⟨x, rfl, hx, HX, hw⟩ := hrel
        replace hw := hw.symm
        subst hw
        by_cases hlx : x < v
        · have hdx : decide ((x : Int) < (v : Int)) = true := by simp; omega
          have hxi : (x : Int) < (v : Int) := by omega
          go_wp2
          go_loopw [6] (fun yv wr' => ∃ (y : Nat), yv = .int .i64 (y : Int) ∧ y ≤ x ∧ Hid (∀ y', y' < y → nb B [x, y'] = 1) ∧ wr' = w1) (fun yv _ => (x - intOf yv).toNat)
          case atStart => exact ⟨0, rfl, by omega, fun y' hy => by omega, rfl⟩
          case round =>
            obtain ⟨y, rfl, hy, HY, hw⟩ := hrel
            replace hw := hw.symm
            subst hw
            by_cases hly : y < x
            · have hdy : decide ((y : Int) < (x : Int)) = true := by simp; omega
              have hyi : (y : Int) < (x : Int) := by omega
              have HC0 : Hid (cnT B x y 0 = 0) := rfl
              go_wp2
              go_loopw [7, 8] (fun cv jv wr' => ∃ (j c : Nat), jv = .int .i64 (j : Int) ∧ cv = .int .i64 (c : Int) ∧ j ≤ n ∧ Hid (cnT B x y j = c) ∧ wr' = w1) (fun _ jv _ => (n - intOf jv).toNat)
              case atStart => exact ⟨0, 0, rfl, rfl, by omega, HC0, rfl⟩
              case round =>
                obtain ⟨j, c, rfl, rfl, hj, HJ, hw⟩ := hrel
                replace hw := hw.symm
                subst hw
                have hcj : c ≤ j := by rw [← HJ.out]; exact HCL.out x y j
                by_cases hlj : j < n
                · have hdj : decide ((j : Int) < (n : Int)) = true := by simp; omega
                  have hji : (j : Int) < (n : Int) := by omega
                  obtain ⟨b, hbi, _, hb40⟩ := HAT.out j hlj
                  obtain ⟨bb, off, ua, uc, rfl, hrow⟩ := HD.out j b hbi
                  obtain ⟨r0, rs⟩ := hrow _ HB1.out
                  have hS := HCS.out x y j b hbi
                  rw [HJ.out] at hS
                  have CX := Lies_any b x _ _ w1 rs (by omega) rfl
                  have CY := Lies_any b y _ _ w1 rs (by omega) rfl
                  cases hcx : b.contains x
                  · rw [hcx] at hS CX
                    have HS : Hid (cnT B x y (j + 1) = c) := by show _ = _; simpa using hS
                    generalize b.contains y = qy at *
                    generalize b.length = bn at *
                    clear hcx hS hrow rs hbi HJ
                    go_wp2_with (first
                      | (go_at_call 31; refine CX.mono ?_; rintro e w4 ⟨rfl, hw⟩; replace hw := hw.symm; subst hw; clear CX)
                      | (go_at_call 31; refine CY.mono ?_; rintro e w4 ⟨rfl, hw⟩; replace hw := hw.symm; subst hw; clear CY))
                    go_roundw
                    case rel => exact ⟨j + 1, c, by go_num, rfl, by omega, HS, trivial⟩
                    case measure => simp [intOf]; omega
                  · rw [hcx] at hS CX
                    cases hcy : b.contains y
                    · rw [hcy] at hS CY
                      have HS : Hid (cnT B x y (j + 1) = c) := by show _ = _; simpa using hS
                      generalize b.length = bn at *
                      clear hcx hcy hS hrow rs hbi HJ
                      go_wp2_with (first
                        | (go_at_call 31; refine CX.mono ?_; rintro e w4 ⟨rfl, hw⟩; replace hw := hw.symm; subst hw; clear CX)
                        | (go_at_call 31; refine CY.mono ?_; rintro e w4 ⟨rfl, hw⟩; replace hw := hw.symm; subst hw; clear CY))
                      go_roundw
                      case rel => exact ⟨j + 1, c, by go_num, rfl, by omega, HS, trivial⟩
                      case measure => simp [intOf]; omega
                    · rw [hcy] at hS CY
                      have HS : Hid (cnT B x y (j + 1) = c + 1) := by show _ = _; simpa using hS
                      generalize b.length = bn at *
                      clear hcx hcy hS hrow rs hbi HJ
                      go_wp2_with (first
                        | (go_at_call 31; refine CX.mono ?_; rintro e w4 ⟨rfl, hw⟩; replace hw := hw.symm; subst hw; clear CX)
                        | (go_at_call 31; refine CY.mono ?_; rintro e w4 ⟨rfl, hw⟩; replace hw := hw.symm; subst hw; clear CY))
                      go_roundw
                      case rel => exact ⟨j + 1, c + 1, by go_num, by go_num, by omega, HS, trivial⟩
                      case measure => simp [intOf]; omega
                · have hdj : decide ((j : Int) < (n : Int)) = false := by simp; omega
                  have hjn : n = j := by omega
                  have hnb : nb B [x, y] = c := by rw [← HCA.out x y, hjn]; exact HJ.out
                  by_cases h1 : c = 1
                  · have HY2 : Hid (∀ y', y' < y + 1 → nb B [x, y'] = 1) := fun y' hy' => by
                      by_cases e : y' = y
                      · rw [e, hnb, h1]
                      · exact HY.out y' (by omega)
                    have hc1 : ((c : Int) != 1) = false := by simp; omega
                    clear hnb hjn HY HJ h1
                    go_wp2
                    go_roundw
                    case rel => exact ⟨y + 1, by go_num, by omega, HY2, trivial⟩
                    case measure => simp [intOf]; omega
                  · have hT := HN2.out x y hlx hly (by rw [hnb]; exact h1)
                    have hc1 : ((c : Int) != 1) = true := by simp; omega
                    have hc2 : ¬ (c : Int) = 1 := by omega
                    clear hnb hjn HY HJ
                    go_wp2
                    go_ret
                    exact ⟨4, rfl, hT, HB1.out⟩
            · have hdy : decide ((y : Int) < (x : Int)) = false := by simp; omega
              have HX2 : Hid (∀ x', x' < x + 1 → ∀ y, y < x' → nb B [x', y] = 1) := fun x' hx' y' hy' => by
                by_cases e : x' = x
                · subst e; exact HY.out y' (by omega)
                · exact HX.out x' (by omega) y' hy'
              go_wp2
              go_roundw
              case rel => exact ⟨x + 1, by go_num, by omega, HX2, trivial⟩
              case measure => simp [intOf]; omega
        · have hdx : decide ((x : Int) < (v : Int)) = false := by simp; omega
          have hT := HYES.out (fun i b hi hb => HI.out i b hi hb) fun x' hx' => HX.out x' (by omega)
          go_wp2
          go_ret
          exact ⟨0, rfl, hT, HB1.out⟩
set_option maxRecDepth 100000 in
set_option maxHeartbeats 4000000 in
theorem Fault_any (p : Int) (ls : List (List Int)) (v : Value) (w : World) (hv : Rw w v ls) (hl : ls.length ≤ maxLen) (hll : ∀ l ∈ ls, l.length ≤ maxLen) :
    Calls Try.prog 12 #[.agg #[.int .i64 p, v]] w fun e w' => ∃ f, e = .returned (.int .i64 f) ∧ TfT p ls f ∧ Below w.heap.size w w' := by
  by_cases hz : dF p ls = 0
  · obtain ⟨n, B, rfl, rfl, G⟩ := dF_ok hz
    exact Fault_main n B v w G hz hv
  · have HC : Hid (∀ W, Below (w.alloc (.cells #[.int .i64 p, v] 24)).heap.size (w.alloc (.cells #[.int .i64 p, v] 24)) W → W.cell? ⟨w.heap.size, 0, none⟩ = some (.int .i64 p) ∧ W.cell? ⟨w.heap.size, 1, none⟩ = some v) := des_box p v w
    have b0 := balloc w (.cells #[.int .i64 p, v] 24)
    have HB0 : Hid (Below w.heap.size w (w.alloc (.cells #[.int .i64 p, v] 24))) := b0
    have C1 : Hid (Calls Try.prog 30 #[.agg #[.int .i64 p, v]] (w.alloc (.cells #[.int .i64 p, v] 24)) fun e w' => e = .returned (.int .i64 (dF p ls : Int)) ∧ Below (w.alloc (.cells #[.int .i64 p, v] 24)).heap.size (w.alloc (.cells #[.int .i64 p, v] 24)) w') := DesignFault_any p ls v _ (hv.below b0) hl hll
    obtain ⟨x0, x1⟩ := HC.out _ (Below.refl _ _)
    have HT : Hid (TfT p ls (dF p ls : Int)) := .inl ⟨hz, rfl⟩
    obtain ⟨a, c, e, _⟩ := hv
    subst e
    obtain ⟨z, Hz⟩ : ∃ z, Hid (dF p ls = z) := ⟨_, rfl⟩
    rw [Hz.out] at C1 HT hz
    have h1 : ((z : Int) != 0) = true := by simp; omega
    have h2 : ¬ (z : Int) = 0 := by omega
    generalize ls.length = bl at *
    clear b0 hl hll
    go_enter Try.func12, Try.ntmps12
    go_wp2_with (go_at_call 30; refine C1.out.mono ?_; rintro e w1 ⟨rfl, hb⟩; clear C1; have HB1 : Hid (Below w.heap.size w w1) := Below.next HB0.out hb; clear hb)
    go_ret
    exact ⟨_, rfl, HT.out, HB1.out⟩

end Go.Proofs.Ytdeofjmgjhfkcaa
