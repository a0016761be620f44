/- The walk of open. -/
import Derived.Test.YtlmjlffipinjiaaSP5
namespace Go.Proofs.Ytlmjlffipinjiaa
open Go.RowKit Go.Shelf

theorem gRow_one (n : Int) (f : Nat → Nat) : (gRow n f).all (·.oneCell') = true := by
  rw [Array.all_eq_true]
  intro i hi
  rw [gRow_size] at hi
  cases i with
  | zero => rfl
  | succ i =>
    have e : (gRow n f)[i + 1]'(by rw [gRow_size]; omega) = .int .u32 ((f i : Nat) : Int) := by simp [gRow]
    rw [e]
    rfl
theorem GrW.zero (w : World) : GrW (w.alloc (.cells #[.int .i64 0, .int .u32 0, .int .u32 0, .int .u32 0, .int .u32 0, .int .u32 0, .int .u32 0, .int .u32 0, .int .u32 0, .int .u32 0, .int .u32 0, .int .u32 0, .int .u32 0, .int .u32 0, .int .u32 0, .int .u32 0, .int .u32 0, .int .u32 0, .int .u32 0, .int .u32 0, .int .u32 0, .int .u32 0, .int .u32 0, .int .u32 0, .int .u32 0] 45)) w.heap.size 0 (fun _ => 0) := GrW.made w 0 (fun _ => 0)
theorem GrW.whole {w : World} {g : Nat} {n : Int} {f : Nat → Nat} (h : GrW w g n f) (n' : Int) (f' : Nat → Nat) : GrW (w.setRow g (gRow n' f')) g n' f' := setRow_heap w g _ _ _ _ h
theorem post_gr {fn : Func} {R : Ending → World → Prop} {a : Act} {w : World} {g : Nat} {n z : Int} {f : Nat → Nat} (s u : Tmp) (hres : fn.results = #[.cell s 45, .tmp u])
    (hp : a.tmps.getD s undef = .pointer (some ⟨g, 0, none⟩)) (hz : a.tmps.getD u undef = .int .i64 z) (hr : GrW w g n f) (hd : a.defers = []) (hR : R (.returned (.tuple #[.agg (gRow n f), .int .i64 z])) w) : bodyPost Try.prog fn R .ret a w := by
  obtain ⟨fs, hu⟩ := und45
  refine bodyPost_ret ?_ hd hR
  have hp' : a.tmps[s]?.getD undef = .pointer (some ⟨g, 0, none⟩) := by simpa using hp
  have hz' : a.tmps[u]?.getD undef = .int .i64 z := by simpa using hz
  simp [results, hres, hp', hz', asAddr, run_loadVar_row w g 45 45 (gRow n f) (0, 0) _ hr hu rfl (inf45 n f)]
/-- What open tells. -/
def OpT (s : Int) (L : List Int) (m : Int) (f : Nat → Nat) : Prop := gF s L = 0 → m = s ∧ (∀ a, f a = btG2 s.toNat L (s.toNat * s.toNat) a)
def OpenR (s : Int) (L : List Int) (w : World) (e : Ending) (w' : World) : Prop := (∃ (m : Int) (f : Nat → Nat), e = .returned (.tuple #[.agg (gRow m f), .int .i64 (gF s L : Int)]) ∧ OpT s L m f) ∧ Below w.heap.size w w'

set_option maxRecDepth 100000 in
set_option maxHeartbeats 4000000 in
theorem open_far (s : Int) (L : List Int) (v : Value) (w : World) (h : s < 1 ∨ 24 < s) :
    Calls Try.prog 18 #[.agg #[.int .i64 s, v]] w (OpenR s L w) := by
  have HF : Hid (gF s L = 1) := gF_far h
  have hz : GrW ((w.alloc (.cells #[.int .i64 s, v] 24)).alloc (.cells #[.int .i64 0, .int .u32 0, .int .u32 0, .int .u32 0, .int .u32 0, .int .u32 0, .int .u32 0, .int .u32 0, .int .u32 0, .int .u32 0, .int .u32 0, .int .u32 0, .int .u32 0, .int .u32 0, .int .u32 0, .int .u32 0, .int .u32 0, .int .u32 0, .int .u32 0, .int .u32 0, .int .u32 0, .int .u32 0, .int .u32 0, .int .u32 0, .int .u32 0] 45)) (w.heap.size + 1) 0 (fun _ => 0) := by
    have := GrW.zero (w.alloc (.cells #[.int .i64 s, v] 24))
    rwa [World.size_alloc] at this
  have hz2 := hz.whole 0 (fun _ => 0)
  have hb : Below w.heap.size w (((w.alloc (.cells #[.int .i64 s, v] 24)).alloc (.cells #[.int .i64 0, .int .u32 0, .int .u32 0, .int .u32 0, .int .u32 0, .int .u32 0, .int .u32 0, .int .u32 0, .int .u32 0, .int .u32 0, .int .u32 0, .int .u32 0, .int .u32 0, .int .u32 0, .int .u32 0, .int .u32 0, .int .u32 0, .int .u32 0, .int .u32 0, .int .u32 0, .int .u32 0, .int .u32 0, .int .u32 0, .int .u32 0, .int .u32 0] 45)).setRow (w.heap.size + 1) (gRow 0 fun _ => 0)) := bsetR ((balloc w _).alloc (by simp) _) (by omega) _
  by_cases h1 : s < 1
  · have d1 : decide (s < 1) = true := decide_eq_true h1
    clear h h1
    go_enter Try.func18, Try.ntmps18
    go_wp2_with (refine wpList_store_row rfl 45 _ _ rfl (w.heap.size + 1) (gRow 0 fun _ => 0) rfl rfl 45 _ hz (inf45 _ _) rfl (gRow_one _ _) ?_)
    refine post_gr (z := 1) 2 3 rfl rfl rfl hz2 rfl ⟨⟨0, fun _ => 0, by rw [HF.out]; rfl, fun h => ?_⟩, hb⟩
    rw [HF.out] at h; cases h
  · have d1 : decide (s < 1) = false := decide_eq_false h1
    have d2 : decide (24 < s) = true := decide_eq_true (by omega)
    clear h h1
    go_enter Try.func18, Try.ntmps18
    go_wp2_with (refine wpList_store_row rfl 45 _ _ rfl (w.heap.size + 1) (gRow 0 fun _ => 0) rfl rfl 45 _ hz (inf45 _ _) rfl (gRow_one _ _) ?_)
    refine post_gr (z := 1) 2 3 rfl rfl rfl hz2 rfl ⟨⟨0, fun _ => 0, by rw [HF.out]; rfl, fun h => ?_⟩, hb⟩
    rw [HF.out] at h; cases h
set_option maxRecDepth 100000 in
set_option maxHeartbeats 4000000 in
theorem open_shape (n : Nat) (L : List Int) (v : Value) (w : World) (h1 : 1 ≤ n) (h8 : n ≤ 8 * 3) (hv : Sl w v L) (_hll : L.length ≤ maxLen) (hl : L.length ≠ n * n) :
    Calls Try.prog 18 #[.agg #[.int .i64 (n : Int), v]] w (OpenR n L w) := by
  have HF : Hid (gF n L = 2) := gF_shape h1 h8 hl
  have d1 : decide ((n : Int) < 1) = false := by simp; omega
  have d2 : decide (24 < (n : Int)) = false := by simp; omega
  obtain ⟨a, cap, rfl, _⟩ := hv
  obtain ⟨z, hz⟩ : ∃ z, z = n * n := ⟨_, rfl⟩
  have hz99 : z ≤ 999 := by rw [hz]; exact Nat.le_trans (Nat.mul_le_mul h8 h8) (by decide)
  have hmul : (n : Int) * (n : Int) = (z : Int) := by rw [hz]; simp
  have hne : ((L.length : Int) != (z : Int)) = true := by simp; omega
  have HR : Hid (∀ w', Below w.heap.size w w' → OpenR n L w (.returned (.tuple #[.agg (gRow 0 fun _ => 0), .int .i64 2])) w') := fun w' hb => ⟨⟨0, fun _ => 0, by rw [HF.out]; rfl, fun h => (by rw [HF.out] at h; cases h)⟩, hb⟩
  generalize OpenR n L w = R at *
  clear HF
  generalize L.length = q at *
  clear hz hl
  have hz : GrW ((w.alloc (.cells #[.int .i64 (n : Int), (.slice a q cap)] 24)).alloc (.cells #[.int .i64 0, .int .u32 0, .int .u32 0, .int .u32 0, .int .u32 0, .int .u32 0, .int .u32 0, .int .u32 0, .int .u32 0, .int .u32 0, .int .u32 0, .int .u32 0, .int .u32 0, .int .u32 0, .int .u32 0, .int .u32 0, .int .u32 0, .int .u32 0, .int .u32 0, .int .u32 0, .int .u32 0, .int .u32 0, .int .u32 0, .int .u32 0, .int .u32 0] 45)) (w.heap.size + 1) 0 (fun _ => 0) := by
    have := GrW.zero (w.alloc (.cells #[.int .i64 (n : Int), .slice a q cap] 24))
    rwa [World.size_alloc] at this
  have hz2 := hz.whole 0 (fun _ => 0)
  have hb : Below w.heap.size w (((w.alloc (.cells #[.int .i64 (n : Int), (.slice a q cap)] 24)).alloc (.cells #[.int .i64 0, .int .u32 0, .int .u32 0, .int .u32 0, .int .u32 0, .int .u32 0, .int .u32 0, .int .u32 0, .int .u32 0, .int .u32 0, .int .u32 0, .int .u32 0, .int .u32 0, .int .u32 0, .int .u32 0, .int .u32 0, .int .u32 0, .int .u32 0, .int .u32 0, .int .u32 0, .int .u32 0, .int .u32 0, .int .u32 0, .int .u32 0, .int .u32 0] 45)).setRow (w.heap.size + 1) (gRow 0 fun _ => 0)) := bsetR ((balloc w _).alloc (by simp) _) (by omega) _
  go_enter Try.func18, Try.ntmps18
  go_wp2_with (refine wpList_store_row rfl 45 _ _ rfl (w.heap.size + 1) (gRow 0 fun _ => 0) rfl rfl 45 _ hz (inf45 _ _) rfl (gRow_one _ _) ?_)
  exact post_gr (z := 2) 2 3 rfl rfl rfl hz2 rfl (HR.out _ hb)
end Go.Proofs.Ytlmjlffipinjiaa
