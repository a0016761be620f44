/- The walks of isSystem and Check. -/
import Derived.Test.YtdeofjmgjhfkcabDoorE9
import Derived.Test.YtdeofjmgjhfkcabDoorTDou
namespace Go.Proofs.YtdeofjmgjhfkcabDoor
open Go.RowKit

theorem sys_one {B : List (List Nat)} : Sys 1 B ↔ B = [] := by
  constructor
  · intro h
    rcases B with _ | ⟨b, B⟩
    · rfl
    · have h1 := (h.bl b (by simp)).le
      have h2 := h.sz b (by simp)
      omega
  · rintro rfl
    exact ⟨fun b hb => by simp at hb, fun b hb => by simp at hb, fun p q hp hq hn => by omega⟩
theorem sys_lev {v : Nat} {B : List (List Nat)} (hB : Bls v B) (hv : 2 ≤ v) : Sys v B ↔ LvOk v B 2 3 1 := by
  constructor
  · intro h
    refine ⟨fun e => ?_, h.sz, fun s hs hl => ?_⟩
    · have := h.l2 0 1 (by omega) (by omega) (by omega)
      rw [e] at this
      simp [nb] at this
    · match s, hl with
      | [p, q], _ => exact h.l2 p q (hs.lt p (by simp)) (hs.lt q (by simp)) (by have := hs.1; simp at this; exact this)
  · intro h
    refine ⟨hB, h.2.1, fun p q hp hq hn => h.2.2 [p, q] ⟨by simp [hn], fun x hx => ?_⟩ rfl⟩
    have : x = p ∨ x = q := by simpa using hx
    rcases this with rfl | rfl <;> assumption
theorem toZ_inj : ∀ {A B : List (List Nat)}, toZ A = toZ B → A = B
  | [], [], _ => rfl
  | [], _ :: _, h => by simp [toZ] at h
  | _ :: _, [], h => by simp [toZ] at h
  | a :: A, b :: B, h => by
    have h1 : (a.map Int.ofNat = b.map Int.ofNat) ∧ toZ A = toZ B := by simpa [toZ] using h
    have e : ∀ {s t : List Nat}, s.map Int.ofNat = t.map Int.ofNat → s = t := by
      intro s t h
      have := congrArg (List.map Int.toNat) h
      simpa [List.map_map, Function.comp_def] using this
    rw [e h1.1, toZ_inj h1.2]
/-- What is wrong with a system. -/
def TfT (p : Int) (ls : List (List Int)) (e : Int) : Prop := (dF p ls ≠ 0 ∧ e = (dF p ls : Int)) ∨ (∃ v B, p = ((v : Nat) : Int) ∧ ls = toZ B ∧ GoodD v B ∧ ((Sys v B ∧ e = 0) ∨ (¬ Sys v B ∧ e = 4)))
theorem TfT.one {p e e' : Int} {ls : List (List Int)} (hz : ∀ v B, p = ((v : Nat) : Int) → ls = toZ B → GoodD v B → dF p ls = 0) (h : TfT p ls e) (h' : TfT p ls e') : e = e' := by
  rcases h with ⟨a, rfl⟩ | ⟨v, B, e1, e2, G, h⟩
  · rcases h' with ⟨_, rfl⟩ | ⟨v, B, e1, e2, G, _⟩
    · rfl
    · exact (a (hz v B e1 e2 G)).elim
  · rcases h' with ⟨a, _⟩ | ⟨v', B', e1', e2', _, h'⟩
    · exact (a (hz v B e1 e2 G)).elim
    · obtain rfl : v = v' := by omega
      obtain rfl := toZ_inj (e2.symm.trans e2')
      rcases h with ⟨a, rfl⟩ | ⟨a, rfl⟩ <;> rcases h' with ⟨b, rfl⟩ | ⟨b, rfl⟩
      · rfl
      · exact (b a).elim
      · exact (a b).elim
      · rfl
open Classical in
set_option maxRecDepth 100000 in
set_option maxHeartbeats 4000000 in
theorem isSystem_any (v : Nat) (B : List (List Nat)) (u : Value) (w : World) (G : GoodD v B) (hu : Rw w u (toZ B)) :
    Calls Tryd.prog 24 #[.agg #[.int .i64 (v : Int), u]] w fun e w' => e = .returned (.bool (decide (Sys v B))) ∧ Below w.heap.size w w' := by
  have HC : Hid (∀ W, Below (w.alloc (.cells #[.int .i64 (v : Int), u] 25)).heap.size (w.alloc (.cells #[.int .i64 (v : Int), u] 25)) W → W.cell? ⟨w.heap.size, 0, none⟩ = some (.int .i64 (v : Int)) ∧ W.cell? ⟨w.heap.size, 1, none⟩ = some u) := des_box v u w
  have b0 := balloc w (.cells #[.int .i64 (v : Int), u] 25)
  obtain ⟨x0, x1⟩ := HC.out _ (Below.refl _ _)
  obtain ⟨a, c, e, _⟩ := hu.below b0
  have el : (toZ B).length = B.length := by simp [toZ]
  rw [el] at e
  have hv40 := G.le
  have hb2 := G.few
  by_cases h1 : v = 1
  · have hs : decide (Sys v B) = decide (B.length = 0) := by
      rw [h1]
      simp only [sys_one, List.length_eq_zero_iff]
    rw [hs]
    subst e
    have hv1 : ((v : Int) == 1) = true := by simp; omega
    have HB0 : Hid (Below w.heap.size w (w.alloc (.cells #[.int .i64 (v : Int), .slice a B.length c] 25))) := b0
    obtain ⟨n, hn⟩ : ∃ n, B.length = n := ⟨_, rfl⟩
    rw [hn] at x1 HB0 hb2 ⊢
    clear hs h1 HC b0 hn hu
    go_enter Tryd.func24, Tryd.ntmps24
    go_wp2
    go_ret
    refine ⟨?_, HB0.out⟩
    by_cases h0 : n = 0
    · subst h0; rfl
    · have e1 : ((n : Int) == 0) = false := by simp; omega
      simp [h0]
  · have G1 : 1 ≤ v := G.pos
    have C := Level_any v 2 B u _ G (hu.below b0)
    have hv1 : ((v : Int) == 1) = false := by simp; omega
    have hv2 : ¬ (v : Int) = 1 := by omega
    have HL : Hid (∀ e, LvT v B 2 e → ∃ k l f : Nat, e = .returned (.tuple #[.int .i64 (k : Int), .int .i64 (l : Int), .int .i64 (f : Int)]) ∧ (decide (Sys v B) = (((f : Int) == 0) && ((k : Int) == 3) && ((l : Int) == 1)))) := fun e h => by
      rcases h with ⟨h, _⟩ | ⟨m, hm, _, _, h⟩
      · omega
      · obtain rfl : m = 2 := by omega
        rcases h with ⟨k, l, ho, rfl⟩ | ⟨hn, rfl⟩
        · refine ⟨k, l, 0, rfl, ?_⟩
          by_cases hs : Sys v B
          · obtain ⟨rfl, rfl⟩ := ho.one (by omega) ((sys_lev G.bls (by omega)).1 hs)
            simp [hs]
          · have : ¬ (k = 3 ∧ l = 1) := fun ⟨e1, e2⟩ => hs ((sys_lev G.bls (by omega)).2 (by rw [← e1, ← e2]; exact ho))
            simp [hs]
            intro e1 e2
            exact this ⟨by omega, by omega⟩
        · refine ⟨0, 0, 4, rfl, ?_⟩
          have hs : ¬ Sys v B := fun hs => hn ⟨3, 1, (sys_lev G.bls (by omega)).1 hs⟩
          simp [hs]
    obtain ⟨S, hS⟩ : ∃ S : Bool, decide (Sys v B) = S := ⟨_, rfl⟩
    rw [hS] at HL ⊢
    have HCL : Hid (Calls Tryd.prog 44 #[.agg #[.int .i64 (v : Int), u], .int .i64 2] (w.alloc (.cells #[.int .i64 (v : Int), u] 25)) fun e w' => LvT v B 2 e ∧ Below (w.alloc (.cells #[.int .i64 (v : Int), u] 25)).heap.size (w.alloc (.cells #[.int .i64 (v : Int), u] 25)) w') := C
    have HB0 : Hid (Below w.heap.size w (w.alloc (.cells #[.int .i64 (v : Int), u] 25))) := b0
    subst e
    clear hS h1 HC b0 hu C
    go_enter Tryd.func24, Tryd.ntmps24
    go_wp2_with (go_at_call 44; refine HCL.out.mono ?_; rintro e w1 ⟨hl, hb⟩; obtain ⟨k, l, f, rfl, hS⟩ := HL.out e hl; have HB1 : Hid (Below w.heap.size w w1) := Below.next HB0.out hb; have HS : Hid (S = (((f : Int) == 0) && ((k : Int) == 3) && ((l : Int) == 1))) := hS; clear hl hb HL HCL hS)
    all_goals
      go_ret
      refine ⟨?_, HB1.out⟩
      rw [HS.out]
      simp_all
open Classical in
set_option maxRecDepth 100000 in
set_option maxHeartbeats 4000000 in
theorem TCheck_any (p : Int) (ls : List (List Int)) (v : Value) (w : World) (hv : Rw w v ls) (hl : ls.length ≤ maxLen) (hll : ∀ l ∈ ls, l.length ≤ maxLen) :
    Calls Tryd.prog 10 #[.agg #[.int .i64 p, v]] w fun e w' => ∃ f, e = .returned (.int .i64 f) ∧ TfT p ls f ∧ Below w.heap.size w w' := by
  have HC : Hid (∀ W, Below (w.alloc (.cells #[.int .i64 p, v] 25)).heap.size (w.alloc (.cells #[.int .i64 p, v] 25)) W → W.cell? ⟨w.heap.size, 0, none⟩ = some (.int .i64 p) ∧ W.cell? ⟨w.heap.size, 1, none⟩ = some v) := des_box p v w
  have b0 := balloc w (.cells #[.int .i64 p, v] 25)
  have HB0 : Hid (Below w.heap.size w (w.alloc (.cells #[.int .i64 p, v] 25))) := b0
  have C1 : Hid (Calls Tryd.prog 23 #[.agg #[.int .i64 p, v]] (w.alloc (.cells #[.int .i64 p, v] 25)) fun e w' => e = .returned (.int .i64 (dF p ls : Int)) ∧ Below (w.alloc (.cells #[.int .i64 p, v] 25)).heap.size (w.alloc (.cells #[.int .i64 p, v] 25)) w') := Check_any p ls v _ (hv.below b0) hl hll
  obtain ⟨x0, x1⟩ := HC.out _ (Below.refl _ _)
  by_cases hz : dF p ls = 0
  · obtain ⟨n, B, rfl, rfl, G⟩ := dF_ok hz
    rw [hz] at C1
    have HV : Hid (∀ W, Below w.heap.size w W → Rw W v (toZ B)) := fun W b => hv.below b
    obtain ⟨a, c, e, _⟩ := hv
    subst e
    generalize (toZ B).length = bl at *
    clear b0 hl hll
    by_cases hs : Sys n B
    · have HT : Hid (TfT (n : Int) (toZ B) 0) := .inr ⟨n, B, rfl, rfl, G, .inl ⟨hs, rfl⟩⟩
      have C2 : Hid (∀ W, Below w.heap.size w W → Calls Tryd.prog 24 #[.agg #[.int .i64 (n : Int), .slice a bl c]] W fun e w' => e = .returned (.bool true) ∧ Below W.heap.size W w') := fun W b => by
        have := isSystem_any n B _ W G (HV.out W b)
        rw [decide_eq_true hs] at this
        exact this
      clear hs hz
      go_enter Tryd.func10, Tryd.ntmps10
      go_wp2_with (first
        | (go_at_call 23; refine C1.out.mono ?_; rintro e w1 ⟨rfl, hb⟩; clear C1; obtain ⟨y0, y1⟩ := HC.out _ hb; have HB1 : Hid (Below w.heap.size w w1) := Below.next HB0.out hb; clear hb)
        | (go_at_call 24; refine (C2.out _ HB1.out).mono ?_; rintro e w2 ⟨rfl, hb⟩; clear C2; have HB2 : Hid (Below w.heap.size w w2) := Below.next HB1.out hb; clear hb))
      go_ret
      exact ⟨0, rfl, HT.out, HB2.out⟩
    · have HT : Hid (TfT (n : Int) (toZ B) 4) := .inr ⟨n, B, rfl, rfl, G, .inr ⟨hs, rfl⟩⟩
      have C2 : Hid (∀ W, Below w.heap.size w W → Calls Tryd.prog 24 #[.agg #[.int .i64 (n : Int), .slice a bl c]] W fun e w' => e = .returned (.bool false) ∧ Below W.heap.size W w') := fun W b => by
        have := isSystem_any n B _ W G (HV.out W b)
        rw [decide_eq_false hs] at this
        exact this
      clear hs hz
      go_enter Tryd.func10, Tryd.ntmps10
      go_wp2_with (first
        | (go_at_call 23; refine C1.out.mono ?_; rintro e w1 ⟨rfl, hb⟩; clear C1; obtain ⟨y0, y1⟩ := HC.out _ hb; have HB1 : Hid (Below w.heap.size w w1) := Below.next HB0.out hb; clear hb)
        | (go_at_call 24; refine (C2.out _ HB1.out).mono ?_; rintro e w2 ⟨rfl, hb⟩; clear C2; have HB2 : Hid (Below w.heap.size w w2) := Below.next HB1.out hb; clear hb))
      go_ret
      exact ⟨4, rfl, HT.out, HB2.out⟩
  · have HT : Hid (TfT p ls (dF p ls : Int)) := .inl ⟨hz, rfl⟩
    obtain ⟨a, c, e, _⟩ := hv
    subst e
    obtain ⟨z, Hz⟩ : ∃ z, Hid (dF p ls = z) := ⟨_, rfl⟩
    rw [Hz.out] at C1 HT hz
    have h1 : ((z : Int) != 0) = true := by simp; omega
    have h2 : ¬ (z : Int) = 0 := by omega
    generalize ls.length = bl at *
    clear b0 hl hll
    go_enter Tryd.func10, Tryd.ntmps10
    go_wp2_with (go_at_call 23; refine C1.out.mono ?_; rintro e w1 ⟨rfl, hb⟩; clear C1; have HB1 : Hid (Below w.heap.size w w1) := Below.next HB0.out hb; clear hb)
    go_ret
    exact ⟨_, rfl, HT.out, HB1.out⟩

end Go.Proofs.YtdeofjmgjhfkcabDoor
