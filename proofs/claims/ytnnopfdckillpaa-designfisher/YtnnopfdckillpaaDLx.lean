/- The walk of the document's LevelOf, all its ways. -/
import Derived.Test.YtnnopfdckillpaaDLw
namespace Go.Proofs.Ytnnopfdckillpaa
open Go.RowKit

/-- A design of level t: its blocks' size, and in how many t points lie. -/
def LvOk (v : Nat) (B : List (List Nat)) (t k l : Nat) : Prop := B ≠ [] ∧ (∀ b ∈ B, b.length = k) ∧ Lev v B t l
theorem LvOk.one {v t k l k' l' : Nat} {B : List (List Nat)} (ht : t ≤ v) (h : LvOk v B t k l) (h' : LvOk v B t k' l') : k = k' ∧ l = l' := by
  obtain ⟨b, hb⟩ := List.exists_mem_of_ne_nil B h.1
  refine ⟨(h.2.1 b hb).symm.trans (h'.2.1 b hb), ?_⟩
  rw [← h.2.2 _ (range_pts ht) (by simp), ← h'.2.2 _ (range_pts ht) (by simp)]
/-- What is told of a level. -/
def LvT (v : Nat) (B : List (List Nat)) (t : Int) (e : Ending) : Prop :=
  ((t < 0 ∨ 4 < t ∨ (v : Int) < t) ∧ e = .returned (.tuple #[.int .i64 0, .int .i64 0, .int .i64 1])) ∨ (∃ m : Nat, t = m ∧ m ≤ 4 ∧ m ≤ v ∧ ((∃ k l : Nat, LvOk v B m k l ∧ e = .returned (.tuple #[.int .i64 (k : Int), .int .i64 (l : Int), .int .i64 0])) ∨ ((¬ ∃ k l, LvOk v B m k l) ∧ e = .returned (.tuple #[.int .i64 0, .int .i64 0, .int .i64 4]))))
theorem LvT.one {v : Nat} {B : List (List Nat)} {t : Int} {e e' : Ending} (h : LvT v B t e) (h' : LvT v B t e') : e = e' := by
  rcases h with ⟨h1, rfl⟩ | ⟨m, rfl, h4, hv, h⟩
  · rcases h' with ⟨_, rfl⟩ | ⟨m, rfl, _, _, _⟩
    · rfl
    · omega
  · rcases h' with ⟨h1, _⟩ | ⟨m', e, _, _, h'⟩
    · omega
    · obtain rfl : m = m' := by omega
      rcases h with ⟨k, l, ho, rfl⟩ | ⟨hn, rfl⟩
      · rcases h' with ⟨k', l', ho', rfl⟩ | ⟨hn, _⟩
        · obtain ⟨rfl, rfl⟩ := ho.one hv ho'
          rfl
        · exact (hn ⟨k, l, ho⟩).elim
      · rcases h' with ⟨k', l', ho', _⟩ | ⟨_, rfl⟩
        · exact (hn ⟨k', l', ho'⟩).elim
        · rfl
set_option maxHeartbeats 8000000 in
theorem LevelOf_far (v : Nat) (t : Int) (u : Value) (w : World) (hu : ∃ a l c, u = .slice a l c) (_hv : v ≤ 40) (h : t < 0 ∨ 4 < t ∨ (v : Int) < t) :
    Calls Try.prog 8 #[.agg #[.int .i64 (v : Int), u], .int .i64 t] w fun e w' => e = .returned (.tuple #[.int .i64 0, .int .i64 0, .int .i64 1]) ∧ Below w.heap.size w w' := by
  obtain ⟨a, l, c, rfl⟩ := hu
  by_cases h1 : t < 0
  · have hd : decide (t < 0) = true := decide_eq_true h1
    clear h h1
    go_enter Try.func8, Try.ntmps8
    go_wp2
    exact bodyPost_ret (v := .tuple #[.int .i64 0, .int .i64 0, .int .i64 1]) (by simp [results, Try.results8, go_sem]) rfl ⟨rfl, balloc w _⟩
  · have hd : decide (t < 0) = false := decide_eq_false h1
    by_cases h2 : 4 < t
    · have hd2 : decide (4 < t) = true := decide_eq_true h2
      clear h h1 h2
      go_enter Try.func8, Try.ntmps8
      go_wp2
      exact bodyPost_ret (v := .tuple #[.int .i64 0, .int .i64 0, .int .i64 1]) (by simp [results, Try.results8, go_sem]) rfl ⟨rfl, balloc w _⟩
    · have hd2 : decide (4 < t) = false := decide_eq_false h2
      have hd3 : decide ((v : Int) < t) = true := decide_eq_true (by omega)
      clear h h1 h2
      go_enter Try.func8, Try.ntmps8
      go_wp2
      exact bodyPost_ret (v := .tuple #[.int .i64 0, .int .i64 0, .int .i64 1]) (by simp [results, Try.results8, go_sem]) rfl ⟨rfl, balloc w _⟩
set_option maxHeartbeats 8000000 in
theorem LevelOf_empty (v t : Nat) (a : Option Addr) (c : Nat) (w : World) (_hv : v ≤ 40) (h4 : t ≤ 4) (htv : t ≤ v) :
    Calls Try.prog 8 #[.agg #[.int .i64 (v : Int), .slice a 0 c], .int .i64 (t : Int)] w fun e w' => e = .returned (.tuple #[.int .i64 0, .int .i64 0, .int .i64 4]) ∧ Below w.heap.size w w' := by
  have hd1 : decide ((t : Int) < 0) = false := decide_eq_false (by omega)
  have hd2 : decide ((4 : Int) < (t : Int)) = false := decide_eq_false (by omega)
  have hd3 : decide ((v : Int) < (t : Int)) = false := decide_eq_false (by omega)
  have hd4 : decide (v < t) = false := decide_eq_false (by omega)
  go_enter Try.func8, Try.ntmps8
  go_wp2
  exact bodyPost_ret (v := .tuple #[.int .i64 0, .int .i64 0, .int .i64 4]) (by simp [results, Try.results8, go_sem]) rfl ⟨rfl, balloc w _⟩
set_option maxRecDepth 100000 in
set_option maxHeartbeats 16000000 in
theorem LevelOf_sizes (v t : Nat) (B : List (List Nat)) (u : Value) (w : World) (G : GoodD v B) (hu : Rw w u (toZ B)) (h4 : t ≤ 4) (htv : t ≤ v) (hne : B ≠ []) (hk : ¬ ∃ k, ∀ b ∈ B, b.length = k) :
    Calls Try.prog 8 #[.agg #[.int .i64 (v : Int), u], .int .i64 (t : Int)] w fun e w' => e = .returned (.tuple #[.int .i64 0, .int .i64 0, .int .i64 4]) ∧ Below w.heap.size w w' := by
  obtain ⟨a, cap, rfl, hD⟩ := drow_of hu
  have h200 := G.few
  have hv40 := G.le
  have HD : Hid (DRow w a B) := hD
  have HBL : Hid (∀ b ∈ B, b.length ≤ 40) := fun b hb => G.len hb
  have HAT : Hid (∀ i, i < B.length → ∃ b, B[i]? = some b) := fun i hi => ⟨_, List.getElem?_eq_getElem hi⟩
  have hpos : 0 < B.length := List.length_pos_iff.2 hne
  have HC : Hid (∀ W, Below (w.alloc (.cells #[.int .i64 (v : Int), .slice a B.length cap] 24)).heap.size (w.alloc (.cells #[.int .i64 (v : Int), .slice a B.length cap] 24)) W → W.cell? ⟨w.heap.size, 0, none⟩ = some (.int .i64 (v : Int)) ∧ W.cell? ⟨w.heap.size, 1, none⟩ = some (.slice a B.length cap)) := des_box v (.slice a B.length cap) w
  obtain ⟨w0, Hw0⟩ : ∃ w0, Hid (w0 = w.alloc (.cells #[.int .i64 (v : Int), .slice a B.length cap] 24)) := ⟨_, rfl⟩
  rw [← Hw0.out] at HC
  have HB0 : Hid (Below w.heap.size w w0) := by rw [Hw0.out]; exact balloc _ _
  have hd1 : decide ((t : Int) < 0) = false := decide_eq_false (by omega)
  have hd2 : decide ((4 : Int) < (t : Int)) = false := decide_eq_false (by omega)
  have hd3 : decide ((v : Int) < (t : Int)) = false := decide_eq_false (by omega)
  obtain ⟨x0, x1⟩ := HC.out _ (Below.refl _ _)
  rw [Hw0.out] at x0 x1
  obtain ⟨b0, hb0⟩ := HAT.out 0 hpos
  obtain ⟨bb, off, ua, uc, rfl, hrow⟩ := HD.out 0 b0 hb0
  have hr0 := (hrow _ (balloc w (.cells #[.int .i64 (v : Int), .slice (some ⟨bb, off, none⟩) B.length cap] 24))).1
  rw [Nat.add_zero] at hr0
  have hk40 := HBL.out b0 (List.mem_of_getElem? hb0)
  obtain ⟨k, Hk⟩ : ∃ k, Hid (b0.length = k) := ⟨_, rfl⟩
  rw [Hk.out] at hr0 hk40
  have HNO : Hid (¬ ∀ (i : Nat) (b : List Nat), B[i]? = some b → b.length = k) := fun h => hk ⟨k, fun b hb => by
    obtain ⟨i, hi⟩ := List.getElem?_of_mem hb
    exact h i b hi⟩
  have hn0 : ((B.length : Int) == 0) = false := beq_eq_false_iff_ne.2 (by omega)
  have hni : (0 : Int) < (B.length : Int) := by omega
  have HLE : Hid (∀ (i : Nat) (b : List Nat), B[i]? = some b → i < B.length) := fun i b h => (List.getElem?_eq_some_iff.1 h).1
  generalize hBn : B.length = n at *
  clear hrow hb0 hk hne hD hu Hk
  go_enter Try.func8, Try.ntmps8
  go_wp2
  go_loopw [8] (fun iv wr => ∃ i : Nat, iv = .int .i64 (i : Int) ∧ i ≤ n ∧ Hid (∀ (m : Nat) (b : List Nat), m < i → B[m]? = some b → b.length = k) ∧ Below w0.heap.size w0 wr) (fun iv _ => (n - intOf iv).toNat)
  case atStart => exact ⟨0, rfl, by omega, (show ∀ (m : Nat) (b : List Nat), m < 0 → _ from fun m b h => by omega), by rw [Hw0.out]; exact Below.refl _ _⟩
  case round =>
    clear x0 x1 hr0
    obtain ⟨i, rfl, hi, HI, hB⟩ := hrel
    obtain ⟨x0, x1⟩ := HC.out _ hB
    by_cases hlt : i < n
    · have hdi : decide ((i : Int) < (n : Int)) = true := by simp; omega
      have hii : (i : Int) < (n : Int) := by omega
      obtain ⟨b, hbi⟩ := HAT.out i hlt
      obtain ⟨bb', off', va, vc, e, hrow⟩ := HD.out i b hbi
      obtain ⟨rfl, rfl⟩ : bb = bb' ∧ off = off' := by
        simp only [Option.some.injEq, Addr.mk.injEq] at e
        exact ⟨e.1, e.2.1⟩
      have hr := (hrow _ (Below.next HB0.out hB)).1
      have hb40 := HBL.out b (List.mem_of_getElem? hbi)
      by_cases hbk : b.length = k
      · have HI2 : Hid (∀ (m : Nat) (b : List Nat), m < i + 1 → B[m]? = some b → b.length = k) := fun m c hm hc => by
          by_cases e : m = i
          · subst e
            rw [hbi] at hc
            obtain rfl := Option.some.inj hc
            exact hbk
          · exact HI.out m c (by omega) hc
        rw [hbk] at hr
        have hne : ((k : Int) != (k : Int)) = false := by simp
        clear hrow hbi e HI hb40 hbk
        go_wp2
        go_roundw
        case rel => exact ⟨i + 1, by go_num, by omega, HI2, hB⟩
        case measure => simp [intOf]; omega
      · have hne : ((b.length : Int) != (k : Int)) = true := bne_iff_ne.2 (by omega)
        generalize b.length = bl at *
        clear hrow hbi e HI hbk
        go_wp2
        exact bodyPost_ret (v := .tuple #[.int .i64 0, .int .i64 0, .int .i64 4]) (by simp [results, Try.results8, go_sem]) rfl ⟨rfl, Below.next HB0.out hB⟩
    · obtain rfl : i = n := by omega
      exact (HNO.out fun m b hb => HI.out m b (HLE.out m b hb) hb).elim
theorem LevelOf_any (v : Nat) (t : Int) (B : List (List Nat)) (u : Value) (w : World) (G : GoodD v B) (hu : Rw w u (toZ B)) :
    Calls Try.prog 8 #[.agg #[.int .i64 (v : Int), u], .int .i64 t] w fun e w' => LvT v B t e ∧ Below w.heap.size w w' := by
  by_cases h : t < 0 ∨ 4 < t ∨ (v : Int) < t
  · refine (LevelOf_far v t u w (by obtain ⟨a, c, rfl, _⟩ := hu; exact ⟨_, _, _, rfl⟩) G.le h).mono ?_
    rintro e w' ⟨he, b⟩
    exact ⟨.inl ⟨h, he⟩, b⟩
  · obtain ⟨m, rfl⟩ : ∃ m : Nat, t = m := ⟨t.toNat, by omega⟩
    by_cases hne : B = []
    · subst hne
      obtain ⟨a, c, rfl, _⟩ := hu
      refine (LevelOf_empty v m a c w G.le (by omega) (by omega)).mono ?_
      rintro e w' ⟨he, b⟩
      exact ⟨.inr ⟨m, rfl, by omega, by omega, .inr ⟨fun ⟨_, _, h, _⟩ => h rfl, he⟩⟩, b⟩
    · by_cases hk : ∃ k, ∀ b ∈ B, b.length = k
      · obtain ⟨k, hk⟩ := hk
        refine (LevelOf_main v k m B u w G hu (by omega) (by omega) hne hk).mono ?_
        rintro e w' ⟨h1 | h1, b⟩
        · obtain ⟨l, he, hl⟩ := h1
          exact ⟨.inr ⟨m, rfl, by omega, by omega, .inl ⟨k, l, ⟨hne, hk, hl⟩, he⟩⟩, b⟩
        · exact ⟨.inr ⟨m, rfl, by omega, by omega, .inr ⟨fun ⟨_, l, h⟩ => h1.2 ⟨l, h.2.2⟩, h1.1⟩⟩, b⟩
      · refine (LevelOf_sizes v m B u w G hu (by omega) (by omega) hne hk).mono ?_
        rintro e w' ⟨he, b⟩
        exact ⟨.inr ⟨m, rfl, by omega, by omega, .inr ⟨fun ⟨k, _, h⟩ => hk ⟨k, h.2.1⟩, he⟩⟩, b⟩
end Go.Proofs.Ytnnopfdckillpaa
