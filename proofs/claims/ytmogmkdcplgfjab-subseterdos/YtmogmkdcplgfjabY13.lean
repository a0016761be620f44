/- The walks of areApart and doCross. -/
import Derived.Test.YtmogmkdcplgfjabY12
namespace Go.Proofs.Ytmogmkdcplgfjab
open Go.RowKit Go.Shelf

attribute [local go_sem] Oper.semAt_some

theorem res_bool {fn : Func} {a : Tmp} {tmps : Array Value} {w : World} {g : Nat} {q : Bool} (h : fn.results = #[.cell a 4]) (p : tmps.getD a undef = .pointer (some ⟨g, 0, none⟩)) (h1 : Boxed w g 4 (.bool q)) :
    (results fn tmps).run Try.prog w = .ok (.bool q) w := by
  have e1 := h1.cell
  rw [Array.getD_eq_getD_getElem?] at p
  simp [results, h, go_sem, p, e1]
theorem CK.box {A B : World} (k : CK A B) {g : Nat} {t : TypeId} {v : Value} (h : Boxed A g t v) : Boxed B g t v := k.2 g _ h rfl
/-- The marks that runs of rounds have left, above a block. -/
def Mks (B : Nat) (rs : List Nat) (W : World) : Prop := rs.Nodup ∧ ∀ q ∈ rs, B ≤ q ∧ W.heap[q]? = some (.deferred (some []))
theorem Mks.nil (B : Nat) (W : World) : Mks B [] W := ⟨List.nodup_nil, fun q hq => by simp at hq⟩
theorem Mks.below {B : Nat} {rs : List Nat} {W V : World} (h : Mks B rs W) (b : Below W.heap.size W V) : Mks B rs V :=
  ⟨h.1, fun q hq => ⟨(h.2 q hq).1, (b.block _ (Array.getElem?_eq_some_iff.1 (h.2 q hq).2).1).trans (h.2 q hq).2⟩⟩
theorem Mks.put {B : Nat} {rs : List Nat} {W : World} (h : Mks B rs W) {l : Nat} (o' : Obj) (hr : l ∉ rs) : Mks B rs (W.putObj l o') :=
  ⟨h.1, fun q hq => ⟨(h.2 q hq).1, (World.putObj_heap_other (show q ≠ l from fun e => hr (e ▸ hq))).trans (h.2 q hq).2⟩⟩
theorem Mks.set {B : Nat} {rs : List Nat} {W : World} (h : Mks B rs W) {a : Addr} (v : Value) (hl : a.block < B) : Mks B rs (W.setCell a v) :=
  ⟨h.1, fun q hq => ⟨(h.2 q hq).1, (heap_setCell_other W a q v (by have := (h.2 q hq).1; omega)).trans (h.2 q hq).2⟩⟩
theorem Mks.more {B : Nat} {rs : List Nat} {W : World} (h : Mks B rs W) {q : Nat} (hq : q ∉ rs) (h2 : B ≤ q) (hk : W.heap[q]? = some (.deferred (some []))) : Mks B (q :: rs) W :=
  ⟨List.nodup_cons.2 ⟨hq, h.1⟩, fun p hp => (List.mem_cons.1 hp).elim (fun e => e ▸ ⟨h2, hk⟩) (fun hp => h.2 p hp)⟩
theorem Mks.new {B : Nat} {rs : List Nat} {W : World} (h : Mks B rs W) {l : Nat} (hl : W.heap.size ≤ l) : l ∉ rs := fun hm => by
  have := (Array.getElem?_eq_some_iff.1 (h.2 l hm).2).1
  omega

set_option maxRecDepth 100000 in
set_option maxHeartbeats 16000000 in
theorem doCross_any (n A : Nat) (M : List Nat) (v : Value) (w : World) (hn : n ≤ 12) (HA2 : Hid (2 ^ n = A)) (hv : Wd w v M) (hl : M.length ≤ 4096) (h4 : ∀ i, i < M.length → M.getD i 0 < A) :
    Calls Try.prog 14 #[.int .i64 (n : Int), v] w fun e w' => e = .returned (.bool (twB crP 1 M)) ∧ Below w.heap.size w w' := by
  obtain ⟨z, Hz⟩ : ∃ z, Hid (twB crP 1 M = z) := ⟨_, rfl⟩
  have hA12 : A ≤ 4096 := by rw [← HA2.out]; exact (Nat.pow_le_pow_right (by decide) hn : 2 ^ n ≤ 2 ^ 12)
  have hA1 : 1 ≤ A := by rw [← HA2.out]; exact Nat.two_pow_pos n
  have eA : (1 : Int) * 2 ^ n = (A : Int) := by rw [Int.one_mul, ← HA2.out]; simp
  have hAw : IntKind.i64.wrap (A : Int) = (A : Int) := IntWalk.i64_in _ (by omega)
  have eA1 : (A : Int) - 1 = ((A - 1 : Nat) : Int) := by omega
  have HNO : Hid (∀ i, i < M.length → hd M (A - 1 - M.getD i 0) = true → z = false) := fun i hi h => by rw [← Hz.out]; exact cross_no (n := n) (by rw [HA2.out]; exact h4) hi (by rw [HA2.out]; exact h)
  have HYS : Hid ((∀ i, i < M.length → hd M (A - 1 - M.getD i 0) = false) → z = true) := fun h => by rw [← Hz.out]; exact cross_yes (n := n) (by rw [HA2.out]; exact h4) (by rw [HA2.out]; exact h)
  have HLK : Hid (∀ y, y < A → bits .andNot .i64 ((A - 1 : Nat) : Int) (y : Int) = ((A - 1 - y : Nat) : Int)) := fun y hy => by
    have := lack_at hn (s := y) (by rw [HA2.out]; exact hy)
    rw [HA2.out] at this
    exact this
  have CH := holders_any n A M v w hn HA2 hv hl h4
  obtain ⟨a, c, rfl, -, hA⟩ := hv
  have HA : Hid (∀ W, Below w.heap.size w W → ∀ i, i < M.length → ∃ b off, a = some ⟨b, off, none⟩ ∧ W.cell? ⟨b, off + i, none⟩ = some (.int .i64 ((M.getD i 0 : Nat) : Int))) := fun W bW i hi => by
    obtain ⟨b, o, e, hc⟩ := hA i hi
    exact ⟨b, o, e, (bW.cell (World.block_lt_of_cell? _ _ hc)).trans hc⟩
  have H4 : Hid (∀ i, i < M.length → M.getD i 0 < A) := h4
  rw [Hz.out]
  obtain ⟨m, Hm⟩ : ∃ m, Hid (M.length = m) := ⟨_, rfl⟩
  rw [Hm.out] at HA H4 HNO HYS hl CH ⊢
  obtain ⟨A1, HA1⟩ : ∃ A1, Hid (A - 1 = A1) := ⟨_, rfl⟩
  rw [HA1.out] at HNO HYS HLK eA1
  have hA1w : IntKind.i64.wrap (A1 : Int) = (A1 : Int) := IntWalk.i64_in _ (by have := HA1.out; omega)
  clear hA h4 HA2
  go_enter Try.func14, Try.ntmps14
  go_wp2_with (go_at_call 21; refine CH.mono ?_; rintro e w2 ⟨⟨y, rfl, gh, rfl, hO⟩, hb2⟩; clear CH)
  go_loopw [17] (fun iv wr => ∃ (i : Nat), iv = .int .i64 (i : Int) ∧ i ≤ m ∧ Hid (∀ j, j < i → hd M (A1 - M.getD j 0) = false) ∧ wr = w2) (fun iv _ => (m - intOf iv).toNat)
  case atStart => exact ⟨0, rfl, by omega, (fun j h => absurd h (by omega) : ∀ j, j < 0 → _), rfl⟩
  case round =>
    obtain ⟨i, rfl, hi, HI, rfl⟩ := hrel
    by_cases hlt : i < m
    · have hdd : decide ((i : Int) < (m : Int)) = true := by simp; omega
      have hii : (i : Int) < (m : Int) := by omega
      obtain ⟨b1, o1, rfl, c1⟩ := HA.out wr hb2 i hlt
      have hyA := H4.out i hlt
      have hno := HNO.out i hlt
      have HI2 : Hid (hd M (A1 - M.getD i 0) = false → ∀ j, j < i + 1 → hd M (A1 - M.getD j 0) = false) := fun h j hj => by
        by_cases e : j = i
        · rw [e]; exact h
        · exact HI.out j (by omega)
      obtain ⟨y, Hy⟩ : ∃ y, Hid (M.getD i 0 = y) := ⟨_, rfl⟩
      rw [Hy.out] at c1 hyA hno HI2
      have hlk := HLK.out y hyA
      obtain ⟨x, Hx⟩ : ∃ x, Hid (A1 - y = x) := ⟨_, rfl⟩
      have hxA : x < A := by have := Hx.out; have := HA1.out; omega
      have hxi : (x : Int) < (A : Int) := by omega
      rw [Hx.out] at hlk hno HI2
      have qx := hO.cell x hxA
      obtain ⟨p, Hp⟩ : ∃ p, Hid (hd M x = p) := ⟨_, rfl⟩
      rw [Hp.out] at qx hno HI2
      cases p with
      | true =>
        have hz := hno rfl
        clear hno HI2
        go_wp2
        go_ret
        exact ⟨by rw [hz]; rfl, hb2⟩
      | false =>
        have HI3 : Hid (∀ j, j < i + 1 → hd M (A1 - M.getD j 0) = false) := HI2.out rfl
        clear hno HI2
        go_wp2
        go_roundw
        case rel => exact ⟨i + 1, by go_num, by omega, HI3, by first | rfl | trivial⟩
        case measure => simp [intOf]; omega
    · have hdd : decide ((i : Int) < (m : Int)) = false := by simp; omega
      obtain rfl : i = m := by omega
      have hz : z = true := HYS.out HI.out
      go_wp2
      go_ret
      exact ⟨by rw [hz]; rfl, hb2⟩
end Go.Proofs.Ytmogmkdcplgfjab
