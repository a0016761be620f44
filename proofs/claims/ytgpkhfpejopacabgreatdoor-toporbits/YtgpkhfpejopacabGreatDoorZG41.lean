/- The walks of list, Element. -/
import Derived.Test.YtgpkhfpejopacabGreatDoorZGB
import Derived.Ground.SlgnProg
import Derived.Shelf.SlicesE.Clone
import Derived.Ground.SlgcProg
import Derived.Shelf.SlicesG.Cmp
import Derived.Ground.SlsfProg
import Derived.Shelf.SlSortCmp.WholeK
import Derived.Test.YtgpkhfpejopacabGreatDoorZG11
import Derived.Test.YtgpkhfpejopacabGreatDoorZP25
/- Lists in their order: ranks rise with it; nothing of the program. -/
namespace Go.Proofs.YtgpkhfpejopacabGreatDoor.Gc

/-- The first place where they part has the less one on the left. -/
def LexLt (m : Nat) (f g : Nat → Nat) : Prop := ∃ i, i < m ∧ (∀ j, j < i → f j = g j) ∧ f i < g i
theorem LexLt.irrefl {m : Nat} {f : Nat → Nat} : ¬ LexLt m f f := fun ⟨_, _, _, h⟩ => by omega
theorem LexLt.trans {m : Nat} {f g h : Nat → Nat} (a : LexLt m f g) (b : LexLt m g h) : LexLt m f h := by
  obtain ⟨i, hi, h1, h2⟩ := a
  obtain ⟨k, hk, h3, h4⟩ := b
  rcases Nat.lt_trichotomy i k with e | e | e
  · exact ⟨i, hi, fun j hj => by rw [h1 j hj, h3 j (by omega)], by rw [← h3 i e]; exact h2⟩
  · subst e; exact ⟨i, hi, fun j hj => by rw [h1 j hj, h3 j hj], by omega⟩
  · exact ⟨k, hk, fun j hj => by rw [h1 j (by omega), h3 j hj], by rw [h1 k e]; exact h4⟩
theorem lex_total {m : Nat} {f g : Nat → Nat} (h : ¬ LexLt m f g) (h' : ¬ LexLt m g f) : ∀ i, i < m → f i = g i := by
  intro i
  induction i using Nat.strongRecOn with
  | _ i ih =>
    intro hi
    have hlow : ∀ j, j < i → f j = g j := fun j hj => ih j hj (by omega)
    refine Classical.byContradiction fun e => ?_
    rcases Nat.lt_or_gt_of_ne e with h1 | h1
    · exact h ⟨i, hi, hlow, h1⟩
    · exact h' ⟨i, hi, fun j hj => (hlow j hj).symm, h1⟩
/-- The list with so many ahead rises with the number. -/
theorem unrL_lex : ∀ (m : Nat) (left : List Nat) (k k' : Nat), left.length = m → left.Pairwise (· < ·) → k < k' → k' < fac m → LexLt m (fun i => (unrL m left k).getD i 0) (fun i => (unrL m left k').getD i 0)
  | 0, _, k, k', _, _, h1, h2 => by simp [fac] at h2; omega
  | m + 1, left, k, k', hl, hp, h1, h2 => by
    have hq := div_fac h2
    have hq0 : k / fac m ≤ k' / fac m := Nat.div_le_div_right (Nat.le_of_lt h1)
    by_cases e : k / fac m = k' / fac m
    · have hm : k % fac m < k' % fac m := by
        have a := Nat.div_add_mod k (fac m)
        have b := Nat.div_add_mod k' (fac m)
        rw [e] at a
        omega
      obtain ⟨i, hi, h3, h4⟩ := unrL_lex m (left.eraseIdx (k' / fac m)) (k % fac m) (k' % fac m) (by rw [List.length_eraseIdx, if_pos (by omega)]; omega) (hp.sublist (List.eraseIdx_sublist _ _)) hm (mod_fac k' m)
      refine ⟨i + 1, by omega, fun j hj => ?_, ?_⟩
      · cases j with
        | zero => simp only [unrL]; rw [e]; rfl
        | succ j =>
          simp only [unrL]
          rw [e]
          exact h3 j (by omega)
      · simp only [unrL]
        rw [e]
        exact h4
    · refine ⟨0, by omega, fun j hj => by omega, ?_⟩
      simp only [unrL]
      have hlt : k / fac m < k' / fac m := by omega
      have hb : k' / fac m < left.length := by omega
      have := List.pairwise_iff_getElem.1 hp _ _ (by omega : k / fac m < left.length) hb hlt
      simpa [List.getD_eq_getElem?_getD, hb, show k / fac m < left.length by omega] using this
theorem unr_lex {n k k' : Nat} (h : k < k') (h' : k' < fac n) : LexLt n (fun i => (unr n k).getD i 0) (fun i => (unr n k').getD i 0) :=
  unrL_lex n (List.range n) k k' (by simp) List.pairwise_lt_range h h'
open Classical in
theorem els_lex (n : Nat) (G : List Nat → Prop) : (els n G).Pairwise fun a b => LexLt n (fun i => a.getD i 0) (fun i => b.getD i 0) := by
  unfold els
  refine List.Pairwise.filter _ ?_
  rw [List.pairwise_map]
  exact List.Pairwise.imp_of_mem (fun {a b} ha hb hab => unr_lex hab (List.mem_range.1 hb)) List.pairwise_lt_range
theorem ext_lex {n : Nat} {a b : List Nat} (hn : n ≤ 7) (h : LexLt n (fun i => a.getD i 0) (fun i => b.getD i 0)) : LexLt 7 (fun i => (ext n a).getD i 0) (fun i => (ext n b).getD i 0) := by
  obtain ⟨i, hi, h1, h2⟩ := h
  refine ⟨i, by omega, fun j hj => ?_, ?_⟩
  · show (ext n a).getD j 0 = (ext n b).getD j 0
    rw [ext_lo hn a (by omega), ext_lo hn b (by omega)]; exact h1 j hj
  · show (ext n a).getD i 0 < (ext n b).getD i 0
    rw [ext_lo hn a hi, ext_lo hn b hi]; exact h2

/-- Compared from a place on, so many places. -/
def lexc (f g : Nat → Nat) : Nat → Nat → Int
  | 0, _ => 0
  | k + 1, j => if f j < g j then -1 else if g j < f j then 1 else lexc f g k (j + 1)
theorem lexc_neg {f g : Nat → Nat} : ∀ k j, lexc f g k j < 0 ↔ ∃ i, j ≤ i ∧ i < j + k ∧ (∀ t, j ≤ t → t < i → f t = g t) ∧ f i < g i
  | 0, j => by
    unfold lexc
    exact ⟨fun h => by omega, fun ⟨i, h1, h2, _⟩ => by omega⟩
  | k + 1, j => by
    unfold lexc
    by_cases h1 : f j < g j
    · rw [if_pos h1]
      exact ⟨fun _ => ⟨j, Nat.le_refl _, by omega, fun t h2 h3 => by omega, h1⟩, fun _ => by omega⟩
    · rw [if_neg h1]
      by_cases h2 : g j < f j
      · rw [if_pos h2]
        refine ⟨fun h => by omega, fun ⟨i, h3, h4, h5, h6⟩ => ?_⟩
        by_cases e : i = j
        · subst e; omega
        · have := h5 j (Nat.le_refl _) (by omega); omega
      · rw [if_neg h2, lexc_neg k (j + 1)]
        constructor
        · rintro ⟨i, h3, h4, h5, h6⟩
          refine ⟨i, by omega, by omega, fun t h7 h8 => ?_, h6⟩
          by_cases e : t = j
          · subst e; omega
          · exact h5 t (by omega) h8
        · rintro ⟨i, h3, h4, h5, h6⟩
          have hne : i ≠ j := fun e => by subst e; omega
          exact ⟨i, by omega, by omega, fun t h7 h8 => h5 t (by omega) h8, h6⟩
theorem lexc_iff {f g : Nat → Nat} {m : Nat} : lexc f g m 0 < 0 ↔ LexLt m f g := by
  rw [lexc_neg]
  exact ⟨fun ⟨i, _, h2, h3, h4⟩ => ⟨i, by omega, fun t ht => h3 t (by omega) ht, h4⟩, fun ⟨i, h2, h3, h4⟩ => ⟨i, by omega, by omega, fun t _ ht => h3 t ht, h4⟩⟩
/-- Two lists of the same ones, both in order, are one. -/
theorem lex_sorted_eq {A B : List (List Nat)} (hp : A.Perm B) (hl : ∀ a ∈ A, a.length = 7) (hA : A.Pairwise fun a b => ¬ LexLt 7 (fun i => b.getD i 0) (fun i => a.getD i 0)) (hB : B.Pairwise fun a b => ¬ LexLt 7 (fun i => b.getD i 0) (fun i => a.getD i 0)) : A = B := by
  refine List.Perm.eq_of_pairwise (le := fun a b => ¬ LexLt 7 (fun i => b.getD i 0) (fun i => a.getD i 0)) (fun a b ha hb h1 h2 => ?_) hA hB hp
  have hb' : b ∈ A := hp.mem_iff.2 hb
  exact isP_ext (hl a ha) (hl b hb') (lex_total h2 h1)

end Go.Proofs.YtgpkhfpejopacabGreatDoor.Gc

/- The library's functions that the program calls, by their contracts, at this program's own numbers. -/
/- The library's functions that the program calls, by their contracts, at this program's own numbers. -/
namespace Go.Proofs.YtgpkhfpejopacabGreatDoor.Gc
open Go.Shelf Go.RowKit Go.Lib

def cloneMv_ren : Go.Shelf.Ren := ⟨fun | 41 => 100 | n => n, fun | 22 => 85 | 23 => 95 | 4 => 4 | n => n, fun | n => n⟩
theorem cloneMv : Go.Proofs.SlLaysE0.n41 Tryz.prog cloneMv_ren := {
  mixed := by kernel_rfl
  f41 := ⟨Tryz.f100.name, by decide, Tryz.func100.trans (congrArg some (by kernel_rfl))⟩
  t4 := Tryz.underlying4
  a4 := Tryz.isAgg4
  z4 := Tryz.sizeOf4
  v4 := Tryz.zeroValue4
  t22 := Tryz.underlying85
  a22 := Tryz.isAgg85
  z22 := Tryz.sizeOf85
  v22 := Tryz.zeroValue85 }
def cloneInt_ren : Go.Shelf.Ren := ⟨fun | 41 => 92 | n => n, fun | 22 => 29 | 23 => 3 | 4 => 4 | n => n, fun | n => n⟩
theorem cloneInt : Go.Proofs.SlLaysE0.n41 Tryz.prog cloneInt_ren := {
  mixed := by kernel_rfl
  f41 := ⟨Tryz.f92.name, by decide, Tryz.func92.trans (congrArg some (by kernel_rfl))⟩
  t4 := Tryz.underlying4
  a4 := Tryz.isAgg4
  z4 := Tryz.sizeOf4
  v4 := Tryz.zeroValue4
  t22 := Tryz.underlying29
  a22 := Tryz.isAgg29
  z22 := Tryz.sizeOf29
  v22 := Tryz.zeroValue29 }
def cmpInt_ren : Go.Shelf.Ren := ⟨fun | 5 => 121 | 7 => 155 | n => n, fun | 22 => 3 | 3 => 3 | 4 => 4 | n => n, fun | n => n⟩
theorem cmpInt : Go.Proofs.SlLaysC2.n5 Tryz.prog cmpInt_ren := {
  mixed := by kernel_rfl
  f5 := ⟨Tryz.f121.name, by decide, Tryz.func121.trans (congrArg some (by kernel_rfl))⟩
  f7 := ⟨Tryz.f155.name, by decide, Tryz.func155.trans (congrArg some (by kernel_rfl))⟩
  t3 := Tryz.underlying3
  a3 := Tryz.isAgg3
  z3 := Tryz.sizeOf3
  v3 := Tryz.zeroValue3
  t4 := Tryz.underlying4
  a4 := Tryz.isAgg4
  z4 := Tryz.sizeOf4
  v4 := Tryz.zeroValue4
  t22 := Tryz.underlying3
  a22 := Tryz.isAgg3
  z22 := Tryz.sizeOf3
  v22 := Tryz.zeroValue3 }

end Go.Proofs.YtgpkhfpejopacabGreatDoor.Gc

namespace Go.Proofs.YtgpkhfpejopacabGreatDoor.Gc
open Go.Shelf Go.RowKit Go.Lib Go.Sort

def sortMv_ren : Go.Shelf.Ren := ⟨fun | 6 => 101 | 15 => 120 | 14 => 133 | 28 => 153 | 29 => 154 | 20 => 160 | 21 => 161 | 22 => 162 | 23 => 163 | 24 => 164 | 25 => 165 | 26 => 166 | 27 => 167 | 46 => 201 | 47 => 187 | 48 => 188 | 49 => 202 | 50 => 203 | 57 => 219 | n => n, fun | 22 => 85 | 24 => 95 | 25 => 153 | 3 => 3 | 39 => 131 | 0 => 0 | 53 => 206 | 55 => 191 | 4 => 4 | 46 => 200 | 45 => 199 | 50 => 116 | 5 => 5 | 9 => 9 | 66 => 230 | 70 => 234 | 76 => 251 | 77 => 252 | n => n, fun | n => n⟩
theorem sortMv : Go.Proofs.SlLaysF0.n6 Tryz.prog sortMv_ren := {
  mixed := by kernel_rfl
  f6 := ⟨Tryz.f101.name, by decide, Tryz.func101.trans (congrArg some (by kernel_rfl))⟩
  f14 := ⟨Tryz.f133.name, by decide, Tryz.func133.trans (congrArg some (by kernel_rfl))⟩
  f15 := Tryz.func120.trans (congrArg some (by kernel_rfl))
  f20 := ⟨Tryz.f160.name, by decide, Tryz.func160.trans (congrArg some (by kernel_rfl))⟩
  f21 := ⟨Tryz.f161.name, by decide, Tryz.func161.trans (congrArg some (by kernel_rfl))⟩
  f22 := ⟨Tryz.f162.name, by decide, Tryz.func162.trans (congrArg some (by kernel_rfl))⟩
  f23 := ⟨Tryz.f163.name, by decide, Tryz.func163.trans (congrArg some (by kernel_rfl))⟩
  f24 := ⟨Tryz.f164.name, by decide, Tryz.func164.trans (congrArg some (by kernel_rfl))⟩
  f25 := ⟨Tryz.f165.name, by decide, Tryz.func165.trans (congrArg some (by kernel_rfl))⟩
  f26 := ⟨Tryz.f166.name, by decide, Tryz.func166.trans (congrArg some (by kernel_rfl))⟩
  f27 := ⟨Tryz.f167.name, by decide, Tryz.func167.trans (congrArg some (by kernel_rfl))⟩
  f28 := Tryz.func153.trans (congrArg some (by kernel_rfl))
  f29 := Tryz.func154.trans (congrArg some (by kernel_rfl))
  f46 := ⟨Tryz.f201.name, by decide, Tryz.func201.trans (congrArg some (by kernel_rfl))⟩
  f47 := Tryz.func187.trans (congrArg some (by kernel_rfl))
  f48 := Tryz.func188.trans (congrArg some (by kernel_rfl))
  f49 := ⟨Tryz.f202.name, by decide, Tryz.func202.trans (congrArg some (by kernel_rfl))⟩
  f50 := ⟨Tryz.f203.name, by decide, Tryz.func203.trans (congrArg some (by kernel_rfl))⟩
  f57 := ⟨Tryz.f219.name, by decide, Tryz.func219.trans (congrArg some (by kernel_rfl))⟩
  t0 := Tryz.underlying0
  a0 := Tryz.isAgg0
  z0 := Tryz.sizeOf0
  v0 := Tryz.zeroValue0
  t3 := Tryz.underlying3
  a3 := Tryz.isAgg3
  z3 := Tryz.sizeOf3
  v3 := Tryz.zeroValue3
  t4 := Tryz.underlying4
  a4 := Tryz.isAgg4
  z4 := Tryz.sizeOf4
  v4 := Tryz.zeroValue4
  t5 := Tryz.underlying5
  a5 := Tryz.isAgg5
  z5 := Tryz.sizeOf5
  v5 := Tryz.zeroValue5
  t9 := Tryz.underlying9
  a9 := Tryz.isAgg9
  z9 := Tryz.sizeOf9
  v9 := Tryz.zeroValue9
  t22 := Tryz.underlying85
  a22 := Tryz.isAgg85
  z22 := Tryz.sizeOf85
  v22 := Tryz.zeroValue85
  t25 := Tryz.underlying153
  a25 := Tryz.isAgg153
  z25 := Tryz.sizeOf153
  v25 := Tryz.zeroValue153
  t39 := Tryz.underlying131
  a39 := Tryz.isAgg131
  z39 := Tryz.sizeOf131
  v39 := Tryz.zeroValue131
  t45 := Tryz.underlying199
  a45 := Tryz.isAgg199
  z45 := Tryz.sizeOf199
  v45 := Tryz.zeroValue199
  t46 := Tryz.underlying200
  a46 := Tryz.isAgg200
  z46 := Tryz.sizeOf200
  v46 := Tryz.zeroValue200
  t50 := Tryz.underlying116
  a50 := Tryz.isAgg116
  z50 := Tryz.sizeOf116
  v50 := Tryz.zeroValue116
  t53 := Tryz.underlying206
  a53 := Tryz.isAgg206
  z53 := Tryz.sizeOf206
  v53 := Tryz.zeroValue206
  t55 := Tryz.underlying191
  a55 := Tryz.isAgg191
  z55 := Tryz.sizeOf191
  v55 := Tryz.zeroValue191
  t66 := Tryz.underlying230
  a66 := Tryz.isAgg230
  z66 := Tryz.sizeOf230
  v66 := Tryz.zeroValue230
  t70 := Tryz.underlying234
  a70 := Tryz.isAgg234
  z70 := Tryz.sizeOf234
  v70 := Tryz.zeroValue234
  t76 := Tryz.underlying251
  a76 := Tryz.isAgg251
  z76 := Tryz.sizeOf251
  v76 := Tryz.zeroValue251
  t77 := Tryz.underlying252
  a77 := Tryz.isAgg252
  z77 := Tryz.sizeOf252
  v77 := Tryz.zeroValue252 }
def sortKd_ren : Go.Shelf.Ren := ⟨fun | 6 => 130 | 15 => 120 | 14 => 159 | 28 => 153 | 29 => 154 | 20 => 193 | 21 => 194 | 22 => 195 | 23 => 196 | 24 => 197 | 25 => 198 | 26 => 199 | 27 => 200 | 46 => 216 | 47 => 187 | 48 => 188 | 49 => 217 | 50 => 218 | 57 => 222 | n => n, fun | 22 => 138 | 24 => 136 | 25 => 143 | 3 => 3 | 39 => 131 | 0 => 0 | 53 => 206 | 55 => 191 | 4 => 4 | 46 => 200 | 45 => 199 | 50 => 116 | 5 => 5 | 9 => 9 | 66 => 230 | 70 => 234 | 76 => 251 | 77 => 252 | n => n, fun | n => n⟩
theorem sortKd : Go.Proofs.SlLaysF0.n6 Tryz.prog sortKd_ren := {
  mixed := by kernel_rfl
  f6 := ⟨Tryz.f130.name, by decide, Tryz.func130.trans (congrArg some (by kernel_rfl))⟩
  f14 := ⟨Tryz.f159.name, by decide, Tryz.func159.trans (congrArg some (by kernel_rfl))⟩
  f15 := Tryz.func120.trans (congrArg some (by kernel_rfl))
  f20 := ⟨Tryz.f193.name, by decide, Tryz.func193.trans (congrArg some (by kernel_rfl))⟩
  f21 := ⟨Tryz.f194.name, by decide, Tryz.func194.trans (congrArg some (by kernel_rfl))⟩
  f22 := ⟨Tryz.f195.name, by decide, Tryz.func195.trans (congrArg some (by kernel_rfl))⟩
  f23 := ⟨Tryz.f196.name, by decide, Tryz.func196.trans (congrArg some (by kernel_rfl))⟩
  f24 := ⟨Tryz.f197.name, by decide, Tryz.func197.trans (congrArg some (by kernel_rfl))⟩
  f25 := ⟨Tryz.f198.name, by decide, Tryz.func198.trans (congrArg some (by kernel_rfl))⟩
  f26 := ⟨Tryz.f199.name, by decide, Tryz.func199.trans (congrArg some (by kernel_rfl))⟩
  f27 := ⟨Tryz.f200.name, by decide, Tryz.func200.trans (congrArg some (by kernel_rfl))⟩
  f28 := Tryz.func153.trans (congrArg some (by kernel_rfl))
  f29 := Tryz.func154.trans (congrArg some (by kernel_rfl))
  f46 := ⟨Tryz.f216.name, by decide, Tryz.func216.trans (congrArg some (by kernel_rfl))⟩
  f47 := Tryz.func187.trans (congrArg some (by kernel_rfl))
  f48 := Tryz.func188.trans (congrArg some (by kernel_rfl))
  f49 := ⟨Tryz.f217.name, by decide, Tryz.func217.trans (congrArg some (by kernel_rfl))⟩
  f50 := ⟨Tryz.f218.name, by decide, Tryz.func218.trans (congrArg some (by kernel_rfl))⟩
  f57 := ⟨Tryz.f222.name, by decide, Tryz.func222.trans (congrArg some (by kernel_rfl))⟩
  t0 := Tryz.underlying0
  a0 := Tryz.isAgg0
  z0 := Tryz.sizeOf0
  v0 := Tryz.zeroValue0
  t3 := Tryz.underlying3
  a3 := Tryz.isAgg3
  z3 := Tryz.sizeOf3
  v3 := Tryz.zeroValue3
  t4 := Tryz.underlying4
  a4 := Tryz.isAgg4
  z4 := Tryz.sizeOf4
  v4 := Tryz.zeroValue4
  t5 := Tryz.underlying5
  a5 := Tryz.isAgg5
  z5 := Tryz.sizeOf5
  v5 := Tryz.zeroValue5
  t9 := Tryz.underlying9
  a9 := Tryz.isAgg9
  z9 := Tryz.sizeOf9
  v9 := Tryz.zeroValue9
  t22 := Tryz.underlying138
  a22 := Tryz.isAgg138
  z22 := Tryz.sizeOf138
  v22 := Tryz.zeroValue138
  t25 := Tryz.underlying143
  a25 := Tryz.isAgg143
  z25 := Tryz.sizeOf143
  v25 := Tryz.zeroValue143
  t39 := Tryz.underlying131
  a39 := Tryz.isAgg131
  z39 := Tryz.sizeOf131
  v39 := Tryz.zeroValue131
  t45 := Tryz.underlying199
  a45 := Tryz.isAgg199
  z45 := Tryz.sizeOf199
  v45 := Tryz.zeroValue199
  t46 := Tryz.underlying200
  a46 := Tryz.isAgg200
  z46 := Tryz.sizeOf200
  v46 := Tryz.zeroValue200
  t50 := Tryz.underlying116
  a50 := Tryz.isAgg116
  z50 := Tryz.sizeOf116
  v50 := Tryz.zeroValue116
  t53 := Tryz.underlying206
  a53 := Tryz.isAgg206
  z53 := Tryz.sizeOf206
  v53 := Tryz.zeroValue206
  t55 := Tryz.underlying191
  a55 := Tryz.isAgg191
  z55 := Tryz.sizeOf191
  v55 := Tryz.zeroValue191
  t66 := Tryz.underlying230
  a66 := Tryz.isAgg230
  z66 := Tryz.sizeOf230
  v66 := Tryz.zeroValue230
  t70 := Tryz.underlying234
  a70 := Tryz.isAgg234
  z70 := Tryz.sizeOf234
  v70 := Tryz.zeroValue234
  t76 := Tryz.underlying251
  a76 := Tryz.isAgg251
  z76 := Tryz.sizeOf251
  v76 := Tryz.zeroValue251
  t77 := Tryz.underlying252
  a77 := Tryz.isAgg252
  z77 := Tryz.sizeOf252
  v77 := Tryz.zeroValue252 }

end Go.Proofs.YtgpkhfpejopacabGreatDoor.Gc

/- The walks of inOrder, list, Element. -/
/- The walks of Compare, the order of moves, inOrder. -/
namespace Go.Proofs.YtgpkhfpejopacabGreatDoor.Gc
open Go.RowKit

theorem cmp_nat (a b : Nat) : Lib.compareInt (a : Int) (b : Int) = if a < b then -1 else if b < a then 1 else 0 := by
  unfold Lib.compareInt
  by_cases h1 : a < b
  · rw [if_pos h1, if_pos (by omega)]
  · rw [if_neg h1, if_neg (by omega)]
    by_cases h2 : b < a
    · rw [if_pos h2, if_pos (by omega)]
    · rw [if_neg h2, if_neg (by omega)]

set_option maxRecDepth 100000 in
set_option maxHeartbeats 1000000 in
theorem Compare_any (f g : Nat → Nat) (a b : Nat) (w : World) (ha : ∀ j, j < 7 → w.cell? ⟨a, j, none⟩ = some (.int .i64 (f j : Int))) (hb : ∀ j, j < 7 → w.cell? ⟨b, j, none⟩ = some (.int .i64 (g j : Int))) :
    Calls Tryz.prog 75 #[.slice (some ⟨a, 0, none⟩) 7 7, .slice (some ⟨b, 0, none⟩) 7 7] w fun e w' => e = .returned (.int .i64 (lexc f g 7 0)) ∧ w' = w := by
  have C := fun (x y : Int) W => AnyG.cmp_Compare_int cmpInt x y W
  change ∀ (x y : Int) W, Calls Tryz.prog 121 _ _ _ at C
  have HA : Hid (∀ j, j < 7 → w.cell? ⟨a, j, none⟩ = some (.int .i64 (f j : Int))) := ha
  have HB : Hid (∀ j, j < 7 → w.cell? ⟨b, j, none⟩ = some (.int .i64 (g j : Int))) := hb
  obtain ⟨z, Hz⟩ : ∃ z, Hid (lexc f g 7 0 = z) := ⟨_, rfl⟩
  rw [Hz.out]
  clear ha hb
  go_enter Tryz.func75, Tryz.ntmps75
  go_wp2
  go_loopw [11] (fun i wr => ∃ j : Nat, i = .int .i64 j ∧ j ≤ 7 ∧ Hid (lexc f g (7 - j) j = z) ∧ wr = w) (fun i _ => (7 - intOf i).toNat)
  case atStart => exact ⟨0, rfl, by omega, Hz, rfl⟩
  case round =>
    obtain ⟨j, rfl, hj, HL, hw⟩ := hrel
    subst hw
    by_cases hlt : j < 7
    · have hji : (j : Int) < 7 := by omega
      have hdec : decide ((j : Int) < 7) = true := by simp; omega
      have hd2 : decide ((7 : Int) ≤ (j : Int)) = false := by simp; omega
      have hca := HA.out j hlt
      have hcb := HB.out j hlt
      have HL2 : Hid ((if f j < g j then (-1 : Int) else if g j < f j then 1 else lexc f g (7 - (j + 1)) (j + 1)) = z) := by
        have h := HL.out
        rw [show 7 - j = 7 - (j + 1) + 1 by omega] at h
        exact h
      obtain ⟨x, Hx⟩ : ∃ x, Hid (f j = x) := ⟨_, rfl⟩
      obtain ⟨y, Hy⟩ : ∃ y, Hid (g j = y) := ⟨_, rfl⟩
      rw [Hx.out] at hca HL2
      rw [Hy.out] at hcb HL2
      have D := C (x : Int) (y : Int)
      rw [cmp_nat] at D
      by_cases h1 : x < y
      · rw [if_pos h1] at D
        obtain rfl : -1 = z := by have := HL2.out; rwa [if_pos h1] at this
        clear h1
        go_wp2_with (first | (go_at_call 121; refine (D _).mono ?_; rintro e w1 ⟨rfl, h⟩; replace h := h.symm; subst h))
        go_ret
        exact ⟨rfl, rfl⟩
      · by_cases h2 : y < x
        · rw [if_neg h1, if_pos h2] at D
          obtain rfl : 1 = z := by have := HL2.out; rwa [if_neg h1, if_pos h2] at this
          clear h1 h2
          go_wp2_with (first | (go_at_call 121; refine (D _).mono ?_; rintro e w1 ⟨rfl, h⟩; replace h := h.symm; subst h))
          go_ret
          exact ⟨rfl, rfl⟩
        · rw [if_neg h1, if_neg h2] at D
          have HL3 : Hid (lexc f g (7 - (j + 1)) (j + 1) = z) := by have := HL2.out; rwa [if_neg h1, if_neg h2] at this
          clear h1 h2
          go_wp2_with (first | (go_at_call 121; refine (D _).mono ?_; rintro e w1 ⟨rfl, h⟩; replace h := h.symm; subst h))
          go_roundw
          case rel => exact ⟨j + 1, by go_num, by omega, HL3, trivial⟩
          case measure => simp [intOf]; omega
    · obtain rfl : j = 7 := by omega
      have hz : z = 0 := by have := HL.out; simpa [lexc] using this.symm
      subst hz
      go_wp2
      go_ret
      exact ⟨rfl, rfl⟩

/-- How two moves compare. -/
def cmpM (x y : List Nat) : Int := lexc (fun j => x.getD j 0) (fun j => y.getD j 0) 7 0

set_option maxRecDepth 100000 in
set_option maxHeartbeats 1000000 in
theorem closure_any (x y : List Nat) (W : World) :
    Calls Tryz.prog 102 #[.agg (mvL x).toArray, .agg (mvL y).toArray] W fun e w' => e = .returned (.int .i64 (cmpM x y)) ∧ ∃ q os', w' = Go.Sort.grow (W.drewN q) os' := by
  have hB : Below W.heap.size W ((W.alloc (.cells (mvL x).toArray 95)).alloc (.cells (mvL y).toArray 95)) := (balloc W _).alloc (by simp) _
  have C := fun W' (h1 : ∀ j, j < 7 → W'.cell? ⟨W.heap.size, j, none⟩ = some (.int .i64 ((x.getD j 0 : Nat) : Int))) (h2 : ∀ j, j < 7 → W'.cell? ⟨W.heap.size + 1, j, none⟩ = some (.int .i64 ((y.getD j 0 : Nat) : Int))) => Compare_any (fun j => x.getD j 0) (fun j => y.getD j 0) W.heap.size (W.heap.size + 1) W' h1 h2
  have H1 : Hid (∀ j, j < 7 → ((W.alloc (.cells (mvL x).toArray 95)).alloc (.cells (mvL y).toArray 95)).cell? ⟨W.heap.size, j, none⟩ = some (.int .i64 ((x.getD j 0 : Nat) : Int))) := fun j hj => by
    have h := (MRow.made 95 W (fun j => (x.getD j 0 : Int))).alloc (.cells (mvL y).toArray 95)
    exact h.cell j hj
  have H2 : Hid (∀ j, j < 7 → ((W.alloc (.cells (mvL x).toArray 95)).alloc (.cells (mvL y).toArray 95)).cell? ⟨W.heap.size + 1, j, none⟩ = some (.int .i64 ((y.getD j 0 : Nat) : Int))) := fun j hj => by
    have h := MRow.made 95 (W.alloc (.cells (mvL x).toArray 95)) (fun j => (y.getD j 0 : Int))
    rw [World.size_alloc] at h
    exact h.cell j hj
  have e0 : cmpM x y = lexc (fun j => x.getD j 0) (fun j => y.getD j 0) 7 0 := rfl
  rw [e0]
  obtain ⟨z, Hz⟩ : ∃ z, Hid (lexc (fun j => x.getD j 0) (fun j => y.getD j 0) 7 0 = z) := ⟨_, rfl⟩
  rw [Hz.out] at C ⊢
  obtain ⟨X, HX⟩ : ∃ X, Hid (mvL x = X) := ⟨_, rfl⟩
  obtain ⟨Y, HY⟩ : ∃ Y, Hid (mvL y = Y) := ⟨_, rfl⟩
  rw [HX.out, HY.out] at H1 H2 ⊢
  have hlx : X.length = 7 := by rw [← HX.out]; exact mvL_len x
  have hly : Y.length = 7 := by rw [← HY.out]; exact mvL_len y
  clear e0 hB
  go_enter Tryz.func102, Tryz.ntmps102
  go_wp2_with fail
  refine wp_region_noPanic ?_
  refine wp_region_held_drew (S := fun _ => True) (by kernel_rfl) (trivial) (fun hSx => ?_)
  refine wpAnyH_take (i := 0) (v := .slice (some ⟨W.heap.size, 0, none⟩) 7 7) rfl (by kernel_rfl) (by kernel_rfl) (by kernel_rfl) (fun _ _ _ h => h) (Or.inl ⟨by rfl, fun w' hSw => by (try dsimp only at hSw); go_simp⟩) trivial ?_
  try simp only [Act.put, List.setIfInBounds_toArray]
  refine wpAnyH_take (i := 1) (v := .slice (some ⟨W.heap.size + 1, 0, none⟩) 7 7) rfl (by kernel_rfl) (by kernel_rfl) (by kernel_rfl) (fun _ _ _ h => h) (Or.inl ⟨by rfl, fun w' hSw => by (try dsimp only at hSw); go_simp⟩) trivial ?_
  try simp only [Act.put]
  refine wpAnyH_ready (rs := [2]) (by kernel_rfl) (by simp) ?_
  refine AllReadyH.cons rfl (fun J hJ => ?_) AllReadyH.nil
  go_simp
  refine (C (World.drew _) (by exact H1.out) (by exact H2.out)).mono ?_
  rintro e w1 ⟨rfl, h⟩
  replace h := h.symm
  subst h
  go_wp2_with fail
  refine hJ.out _ _ trivial (fun _ => ?_)
  clear hJ J
  try simp only [Act.put, List.setIfInBounds_toArray, List.set_cons_zero, List.set_cons_succ]
  refine wpAnyH_ready (rs := [3]) (by kernel_rfl) (by simp) ?_
  refine AllReadyH.cons rfl (fun J hJ => ?_) AllReadyH.nil
  go_simp
  refine hJ.out _ _ trivial (fun _ => ?_)
  clear hJ J
  try simp only [Act.put, List.setIfInBounds_toArray, List.set_cons_zero, List.set_cons_succ]
  refine wpAnyH_done (by kernel_rfl) ?_ _
  refine NoPanic.normal ?_
  go_wp2_with fail
  go_ret
  refine ⟨rfl, 1, #[.cells X.toArray 95, .cells Y.toArray 95], ?_⟩
  rw [Go.Sort.alloc_eq_grow, Go.Sort.alloc_eq_grow, Go.Sort.grow_grow]
  rfl

end Go.Proofs.YtgpkhfpejopacabGreatDoor.Gc

namespace Go.Proofs.YtgpkhfpejopacabGreatDoor.Gc
open Go.RowKit

theorem lt_iff (x y : List Nat) : ltOf cmpM x y = true ↔ LexLt 7 (fun j => x.getD j 0) (fun j => y.getD j 0) := by
  unfold ltOf cmpM
  rw [decide_eq_true_iff, lexc_iff]
theorem lt_no (x y : List Nat) : ltOf cmpM x y = false ↔ ¬ LexLt 7 (fun j => x.getD j 0) (fun j => y.getD j 0) := by
  rw [← lt_iff]; simp
theorem lex_congr {f f' g : Nat → Nat} (e : ∀ i, i < 7 → f i = f' i) (h : LexLt 7 f g) : LexLt 7 f' g := by
  obtain ⟨i, hi, h1, h2⟩ := h
  exact ⟨i, hi, fun j hj => by rw [← e j (by omega)]; exact h1 j hj, by rw [← e i hi]; exact h2⟩
theorem swoM : Go.Sort.SWO (ltOf cmpM) where
  irrefl x := (lt_no x x).2 LexLt.irrefl
  trans x y z h1 h2 := (lt_iff x z).2 (((lt_iff x y).1 h1).trans ((lt_iff y z).1 h2))
  ntrans x y z h1 h2 := by
    rw [lt_no] at h1 h2 ⊢
    intro h
    by_cases h3 : LexLt 7 (fun j => y.getD j 0) (fun j => x.getD j 0)
    · exact h2 (h3.trans h)
    · exact h2 (lex_congr (lex_total h1 h3) h)
theorem sort_below {w : World} {B blk n : Nat} {d' : Array (List Nat)} {os : Array Obj} (hB : B ≤ blk) (hs : B ≤ w.heap.size) : Below B w (sortWorldK mvL 7 w blk 0 n d' os) := by
  refine ⟨rfl, rfl, rfl, ?_, fun k hk => ?_⟩
  · show w.heap.size ≤ (Go.Sort.grow (Go.Sort.putRowK mvL 7 (Go.Sort.ahead w n) blk 0 d') os).heap.size
    simp [Go.Sort.grow, Go.Sort.putRowK, Go.Sort.putRow, Go.Sort.mapBlock, Go.Sort.ahead]
  · show (Go.Sort.grow (Go.Sort.putRowK mvL 7 (Go.Sort.ahead w n) blk 0 d') os).heap[k]? = w.heap[k]?
    rw [Go.Sort.heap_grow_old _ _ (by simp [Go.Sort.putRowK, Go.Sort.putRow, Go.Sort.mapBlock, Go.Sort.ahead]; omega)]
    simp only [Go.Sort.putRowK, Go.Sort.putRow, Go.Sort.mapBlock, Go.Sort.ahead]
    rw [Array.getElem?_modify, if_neg (by omega)]
theorem flat_at {M : List (List Nat)} {t : Nat} (ht : t < M.length * 7) : (M.flatMap mvL)[t]? = some ((mvL M.toArray[t / 7]!)[t % 7]!) := by
  have hi : t / 7 < M.length := by omega
  have hj : t % 7 < 7 := Nat.mod_lt _ (by omega)
  have h := flat_range (L := M) (i := t / 7) (x := M[t / 7]) (List.getElem?_eq_getElem hi) (t % 7) ((mvL M[t / 7])[t % 7]'(by rw [mvL_len]; exact hj)) (List.getElem?_eq_getElem _)
  rw [show t / 7 * 7 + t % 7 = t by omega] at h
  rw [h]
  have e1 : M.toArray[t / 7]! = M[t / 7] := by simp [hi]
  rw [e1, getElem!_pos (mvL M[t / 7]) (t % 7) (by rw [mvL_len]; exact hj)]
set_option maxRecDepth 100000 in
theorem isAgg62' (w : World) : (isAgg 95).run Tryz.prog w = .ok true w := by kernel_rfl
set_option maxRecDepth 100000 in
theorem sizeOf62' (w : World) : (Go.sizeOf 95).run Tryz.prog w = .ok 7 w := by kernel_rfl

set_option maxRecDepth 100000 in
set_option maxHeartbeats 2000000 in
theorem inOrder_any (base G : Nat) (M : List (List Nat)) (w : World) (hM : Mem base w G M) (h0 : 0 < M.length) (h6 : M.length ≤ 6000) :
    Calls Tryz.prog 50 #[.pointer (some ⟨G, 0, none⟩)] w fun e w' => (∃ v M', e = .returned v ∧ Mvs w' v M' ∧ M'.Perm M ∧ M'.Pairwise fun a b => ¬ LexLt 7 (fun i => b.getD i 0) (fun i => a.getD i 0)) ∧ Below w.heap.size w w' := by
  obtain ⟨i62, hi, hz0, hz1, hz2⟩ := info62
  obtain ⟨v, B, hG, hrow, _⟩ := id hM
  obtain ⟨g, gc, hc0, hgl, hGl, _, _, _⟩ := hM.open h0
  obtain ⟨r, Hr⟩ : ∃ r, Hid (M.length = r) := ⟨_, rfl⟩
  have hv : v = .slice (some ⟨g, 0, none⟩) M.length gc := by
    rw [cell_of_row w G 0 _ _ _ hG] at hc0
    simpa using hc0
  have hcl : ∀ j u, (M.flatMap mvL)[j]? = some u → w.cell? ⟨g, 0 + j, none⟩ = some u := fun j u hu => by
    have h := hrow.cells (g := g) (by rw [hv]; rfl) j u hu
    rw [Addr.add_mid] at h; exact h
  have hfl : (M.flatMap mvL).length = M.length * 7 := hrow.1
  have C1 := AnyE.slices_Clone cloneMv i62 (.agg (mrow fun _ => 0)) 7 56 hi hz0 hz1 hz2 (by simp [Value.cells]) (by omega) sizeOf62' g 0 M.length gc (M.flatMap mvL) w hfl (by unfold maxLen; omega) (by omega) hcl (fun u hu => by
    obtain ⟨x, _, hx⟩ := List.mem_flatMap.1 hu
    exact mvL_one x u hx)
  change Calls Tryz.prog 100 _ _ _ at C1
  have C2 : ∀ (g' cap' : Nat) (W : World), W.ownsRow w.heap.size 95 7 (.slice (some ⟨g', 0, none⟩) M.length cap') M.length (M.flatMap mvL) → w.heap.size ≤ W.heap.size → Calls Tryz.prog 101 #[.slice (some ⟨g', 0, none⟩) M.length cap', .func (.func 102) #[] #[]] W fun e w' => e = .returned (.tuple #[]) ∧ (∃ M' : List (List Nat), M'.length = M.length ∧ Mvs w' (.slice (some ⟨g', 0, none⟩) M.length cap') M' ∧ M'.Perm M ∧ M'.Pairwise fun a b => ¬ LexLt 7 (fun i => b.getD i 0) (fun i => a.getD i 0)) ∧ Below w.heap.size W w' := by
    intro g' cap' W hown hsW
    obtain ⟨hl', ⟨e, _⟩ | ⟨g2, cap2, cur, e, hb, h7, h8, h9, h10, ht⟩⟩ := hown
    · cases e
    · cases e
      have hH : Go.Sort.HoldsK mvL 7 W g' 0 M.toArray := fun t htt => by
        rw [Go.Sort.size_flatK] at htt
        have htt : t < M.length * 7 := by simpa using htt
        rw [Go.Sort.get_flatK _ _ _ _ (by simpa using htt)]
        refine ⟨?_, frozen_of_row W g' _ _ _ h7⟩
        rw [Nat.zero_add, cell_of_row W g' _ _ _ _ h7]
        have h3 := flat_at htt
        rw [← ht, List.getElem?_take, if_pos (by omega)] at h3
        rw [← Array.getElem?_toList]; exact h3
      have hblk : g' < W.heap.size := (Array.getElem?_eq_some_iff.1 h7).1
      have eg : ∀ args w, (callFunc 102 args).run Tryz.prog w = .ok (.enter 102 args) w := enters_of Tryz.func102 (by kernel_rfl) rfl
      have h := AnyQ.slices_SortFunc sortMv 7 isAgg62' sizeOf62' mvL mvL_len mvL_one cmpM swoM 102 #[] g' 0 cap' M.toArray W eg (fun m os dk _ x y => closure_any x y _) hH hblk (by simp; omega)
      change Calls Tryz.prog 101 _ _ _ at h
      have hsz0 : M.toArray.size = M.length := by simp
      rw [hsz0] at h
      exact h.mono (fun e w' ⟨he, d', n, os, hp, hs, hw⟩ => by
        have hsz : d'.size = M.length := by simpa using hp.1
        refine ⟨he, ⟨d'.toList, by simpa using hsz, ?_, ?_, ?_⟩, ?_⟩
        · have hH' : Go.Sort.HoldsK mvL 7 w' g' 0 d' := by
            rw [hw]
            exact Go.Sort.holdsK_grow mvL 7 _ _ _ _ _ (by simp [Go.Sort.putRowK, Go.Sort.putRow, Go.Sort.mapBlock, Go.Sort.ahead]; exact hblk) (Go.Sort.holdsK_putRowK mvL 7 _ _ _ M.toArray d' (Go.Sort.holdsK_ahead mvL 7 _ _ _ _ _ hH) (by simpa using hsz))
          refine ⟨_, cap', by simp [hsz], fun i x hx => ⟨g', 0, rfl, ?_, fun j u hu => ?_⟩⟩
          · rw [hw]
            show g' < (Go.Sort.grow (Go.Sort.putRowK mvL 7 (Go.Sort.ahead W n) g' 0 d') os).heap.size
            simp [Go.Sort.grow, Go.Sort.putRowK, Go.Sort.putRow, Go.Sort.mapBlock, Go.Sort.ahead]; omega
          · have hi' : i < d'.size := by have := (List.getElem?_eq_some_iff.1 hx).1; simpa using this
            have hj : j < 7 := by have := (List.getElem?_eq_some_iff.1 hu).1; rwa [mvL_len] at this
            have hc := (hH'.cell hi' hj).1
            have e1 : d'[i]! = x := by
              have : d'.toList[i]? = some x := hx
              rw [Array.getElem?_toList, Array.getElem?_eq_getElem hi'] at this
              rw [getElem!_pos d' i hi']
              exact Option.some.inj this
            rw [hc, e1, getElem!_pos (mvL x) j (by rw [mvL_len]; exact hj)]
            rw [List.getElem?_eq_getElem (by rw [mvL_len]; exact hj)] at hu
            exact hu
        · have h2 := hp.2.2
          have e1 : d'.extract 0 M.length = d' := by rw [← hsz]; simp
          have e2 : M.toArray.extract 0 M.length = M.toArray := by simp
          rw [e1, e2] at h2
          exact h2
        · rw [List.pairwise_iff_getElem]
          intro a b ha hb' hab
          have ha' : a < d'.size := by simpa using ha
          have hb2 : b < d'.size := by simpa using hb'
          have h3 := hs a b (Nat.zero_le _) hab (by omega)
          rw [lt_no, getElem!_pos d' a ha', getElem!_pos d' b hb2] at h3
          exact h3
        · rw [hw]; exact sort_below hb hsW)
  rw [Hr.out] at C1 C2 hc0
  have h6r : r ≤ 6000 := by rw [← Hr.out]; exact h6
  clear hM hrow hcl hfl hG hv hi hz0 hz1 hz2 h6
  have C1' := C1.mono (R' := fun e w' => (∃ g' cap', e = .returned (.slice (some ⟨g', 0, none⟩) r cap') ∧ w'.ownsRow w.heap.size 95 7 (.slice (some ⟨g', 0, none⟩) r cap') r (M.flatMap mvL)) ∧ Below w.heap.size w w') (fun e w' ⟨v', h1, h2, h3, h4⟩ => by
    obtain ⟨k1, ⟨e1, _⟩ | ⟨g2, cap2, cur, e1, k2⟩⟩ := id h2
    · exact absurd e1 h3
    · exact ⟨⟨g2, cap2, by rw [h1, e1], by rw [← e1]; exact h2⟩, h4⟩)
  clear C1
  go_enter Tryz.func50, Tryz.ntmps50
  go_wp2_with (first
    | (go_at_call 100; refine C1'.mono ?_; rintro e w1 ⟨⟨g', cap', rfl, how⟩, b1⟩)
    | (go_at_call 101; refine (C2 g' cap' _ how b1.size).mono ?_; rintro e w2 ⟨rfl, ⟨M', hl, hm, hp, hs⟩, b2⟩))
  go_ret
  exact ⟨⟨_, M', rfl, hm, hp, hs⟩, b1.trans b2⟩

end Go.Proofs.YtgpkhfpejopacabGreatDoor.Gc

namespace Go.Proofs.YtgpkhfpejopacabGreatDoor.Gc
open Go.RowKit

set_option maxRecDepth 100000 in
theorem sizeOf3' (w : World) : (Go.sizeOf 3).run Tryz.prog w = .ok 1 w := by kernel_rfl

set_option maxRecDepth 100000 in
set_option maxHeartbeats 1000000 in
theorem list_any (n : Nat) (a : List Nat) (w : World) (hn : n ≤ 7) (ha : a.length = n) :
    Calls Tryz.prog 51 #[mv (ext n a), .int .i64 (n : Int)] w fun e w' => (∃ y, e = .returned y ∧ Sl w' y (a.map Int.ofNat)) ∧ Below w.heap.size w w' := by
  obtain ⟨i3, ti, tz0, tz1, tz2⟩ := info3
  have hk0 := MRow.made 95 w (fun j => ((ext n a).getD j 0 : Int))
  have hB0 := balloc w (.cells (mrow fun j => ((ext n a).getD j 0 : Int)) 95)
  have hnews : ∀ j u, (vl a)[j]? = some u → (w.alloc (.cells (mrow fun j => ((ext n a).getD j 0 : Int)) 95)).cell? ⟨w.heap.size, 0 + j, none⟩ = some u := fun j u hu => by
    have hj : j < n := by have := (List.getElem?_eq_some_iff.1 hu).1; simp [vl] at this; omega
    rw [Nat.zero_add, hk0.cell j (by omega), ext_lo hn a hj]
    have hj' : j < a.length := by omega
    simp [vl, hj'] at hu ⊢
    exact hu
  have C := AnyE.slices_Clone cloneInt i3 (.int .i64 0) 1 8 ti tz0 tz1 tz2 (by simp [Value.cells]) (by omega) sizeOf3' w.heap.size 0 n 7 (vl a) _ (by simp [vl, ha]) (by unfold maxLen; omega) (by omega) hnews (fun u hu => by
    simp only [vl, List.mem_map] at hu
    obtain ⟨x, _, rfl⟩ := hu
    rfl)
  change Calls Tryz.prog 92 _ _ _ at C
  have C' := C.mono (R' := fun e w' => (∃ y, e = .returned y ∧ Sl w' y (a.map Int.ofNat)) ∧ Below w.heap.size w w') (fun e w' ⟨v', h1, h2, _, h4⟩ => ⟨⟨v', h1, own_vl h2 ha⟩, Below.next hB0 h4⟩)
  clear C hnews ti tz0 tz1 tz2
  unfold mv
  obtain ⟨F, HF⟩ : ∃ F : Nat → Int, Hid ((fun j => ((ext n a).getD j 0 : Int)) = F) := ⟨_, rfl⟩
  rw [HF.out] at C' hk0 hB0 ⊢
  have hn0 : (0 : Int) ≤ (n : Int) := by omega
  have hn7 : (n : Int) ≤ 7 := by omega
  go_enter Tryz.func51, Tryz.ntmps51
  go_wp2_with (first
    | (go_at_call 92; refine C'.mono ?_; rintro e w1 ⟨⟨y, rfl, hy⟩, b1⟩))
  go_ret
  exact ⟨⟨y, rfl, hy⟩, b1⟩

theorem sorted_els {n : Nat} {ms L M : List (List Nat)} (hm : ∀ m ∈ ms, IsP n m) (hn : n ≤ 7) (nd : L.Nodup) (hg : ∀ a, a ∈ L ↔ Gen n ms a) (hp : M.Perm (L.map (ext n))) (hs : M.Pairwise fun a b => ¬ LexLt 7 (fun i => b.getD i 0) (fun i => a.getD i 0)) : M = (els n (Gen n ms)).map (ext n) := by
  have hp2 : M.Perm ((els n (Gen n ms)).map (ext n)) := hp.trans ((gen_perm hm nd hg).map _)
  refine lex_sorted_eq hp2 (fun a ha => ?_) hs ?_
  · obtain ⟨b, _, rfl⟩ := List.mem_map.1 (hp.mem_iff.1 ha)
    exact ext_len _ _
  · rw [List.pairwise_map]
    refine List.Pairwise.imp (fun {a b} h h2 => ?_) (els_lex n (Gen n ms))
    exact LexLt.irrefl ((ext_lex hn h).trans h2)
theorem ord_le' {n : Nat} {ms : List (List Nat)} (hm : ∀ m ∈ ms, IsP n m) (hn : n ≤ 7) : ordG n ms ≤ 5040 := (gen_bound hm hn (els_nodup n (Gen n ms)) (fun _ => (gen_grp hm).mem)).2
theorem els_at {n : Nat} {ms : List (List Nat)} {k : Nat} (hk : k < ordG n ms) : ∃ a, (els n (Gen n ms))[k]? = some a ∧ IsP n a ∧ Gen n ms a := by
  unfold ordG at hk
  refine ⟨(els n (Gen n ms))[k], List.getElem?_eq_getElem hk, ?_, ?_⟩
  · exact (mem_els.1 (List.getElem_mem hk)).1
  · exact (mem_els.1 (List.getElem_mem hk)).2

set_option maxRecDepth 100000 in
set_option maxHeartbeats 2000000 in
theorem Element_ok (n k : Nat) (ms : List (List Nat)) (a : List Nat) (v : Value) (w : World) (h : Mk n ms v w) (hk : k < ordG n ms) (ha : (els n (Gen n ms))[k]? = some a) (hap : IsP n a) :
    Calls Tryz.prog 16 #[.int .i64 (n : Int), v, .int .i64 (k : Int)] w fun e w' => (∃ y, e = .returned (.tuple #[y, .int .i64 0]) ∧ Sl w' y (a.map Int.ofNat)) ∧ Below w.heap.size w w' := by
  have C1 := h.check
  have C2 := fun W (hb : Below w.heap.size w W) => (h.below hb).moves
  have C3 := fun x W hx => h.made x W hx
  have C4 := fun base G (L : List (List Nat)) W (hM : Mem base W G (L.map (ext n))) (nd : L.Nodup) (hg : ∀ a, a ∈ L ↔ Gen n ms a) => order_any base G _ W hM (by rw [List.length_map]; exact (gen_bound h.isP h.n7 nd hg).1)
  have E1 : Hid (∀ (L : List (List Nat)), L.Nodup → (∀ a, a ∈ L ↔ Gen n ms a) → (L.map (ext n)).length = ordG n ms) := fun L nd hg => by rw [List.length_map]; exact gen_len h.isP nd hg
  have C5 := fun base G (L : List (List Nat)) W (hM : Mem base W G (L.map (ext n))) (nd : L.Nodup) (hg : ∀ a, a ∈ L ↔ Gen n ms a) => (inOrder_any base G _ W hM (by rw [List.length_map]; exact (gen_bound h.isP h.n7 nd hg).1) (by rw [List.length_map]; have := (gen_bound h.isP h.n7 nd hg).2; omega)).mono (R' := fun e w' => (∃ b off c, e = .returned (.slice (some ⟨b, off, none⟩) (ordG n ms) c) ∧ b < w'.heap.size ∧ w'.rangeAt b (off + k * 7) (mvL (ext n a))) ∧ Below W.heap.size W w') (fun e w' ⟨⟨x, M', h1, h2, h3, h4⟩, h5⟩ => by
    have e1 := sorted_els h.isP h.n7 nd hg h3 h4
    subst e1
    obtain ⟨xa, xc, e2, h6⟩ := h2
    obtain ⟨b, off, e3, h7, h8⟩ := h6 k (ext n a) (by rw [List.getElem?_map, ha]; rfl)
    refine ⟨⟨b, off, xc, ?_, h7, h8⟩, h5⟩
    rw [h1, e2, e3, List.length_map]; rfl)
  have C6 := fun W => list_any n a W h.n7 hap.len
  simp only [mv_eq] at C6
  have hinf := inf62L (ext n a)
  have hob := (ord_le' h.isP h.n7)
  obtain ⟨X, HX⟩ : ∃ X, Hid (mvL (ext n a) = X) := ⟨_, rfl⟩
  rw [HX.out] at C5 C6 hinf
  obtain ⟨o, Ho⟩ : ∃ o, Hid (ordG n ms = o) := ⟨_, rfl⟩
  rw [Ho.out] at C5 E1 hk hob
  have hki : (k : Int) < (o : Int) := by omega
  have hd : decide ((k : Int) < 0) = false := decide_eq_false (by omega)
  have hd2 : decide ((o : Int) ≤ (k : Int)) = false := decide_eq_false (by omega)
  clear h ha hap
  go_enter Tryz.func16, Tryz.ntmps16
  go_wp2_with (first
    | (go_at_call 40; refine C1.mono ?_; rintro e w1 ⟨rfl, b1⟩)
    | (go_at_call 42; refine (C2 _ b1).mono ?_; rintro e w2 ⟨⟨x, rfl, hx⟩, b2⟩; replace b2 := Below.next b1 b2)
    | (go_at_call 48; refine (C3 _ _ hx).mono ?_; rintro e w3 ⟨⟨G, L, rfl, hM, nd, hg⟩, b3⟩; replace b3 := Below.next b2 b3)
    | (go_at_call 49; refine (C4 _ _ _ _ hM nd hg).mono ?_; rw [E1.out L nd hg]; rintro e w4 ⟨rfl, h⟩; replace h := h.symm; subst h)
    | (go_at_call 50; refine (C5 _ _ _ _ hM nd hg).mono ?_; rintro e w5 ⟨⟨b, off, c, rfl, hbl, hr5⟩, b5⟩; replace b5 := Below.next b3 b5)
    | (refine wpList_load_mid rfl 95 _ rfl b (off + k * 7) rfl X _ hr5 und62 rfl hinf ?_)
    | (go_at_call 51; refine (C6 _).mono ?_; rintro e w6 ⟨⟨y, rfl, hy⟩, b6⟩; replace b6 := Below.next b5 b6))
  exact bodyPost_ret (v := .tuple #[y, .int .i64 0]) (by simp [results, Tryz.results16, go_sem]) rfl ⟨⟨y, rfl, hy⟩, b6⟩

set_option maxRecDepth 100000 in
set_option maxHeartbeats 2000000 in
theorem Element_far (n : Nat) (k : Int) (ms : List (List Nat)) (v : Value) (w : World) (h : Mk n ms v w) (hk : k < 0 ∨ (ordG n ms : Int) ≤ k) :
    Calls Tryz.prog 16 #[.int .i64 (n : Int), v, .int .i64 k] w fun e w' => e = .returned (.tuple #[.slice none 0 0, .int .i64 1]) ∧ Below w.heap.size w w' := by
  have C1 := h.check
  have C2 := fun W (hb : Below w.heap.size w W) => (h.below hb).moves
  have C3 := fun x W hx => h.made x W hx
  have C4 := fun base G (L : List (List Nat)) W (hM : Mem base W G (L.map (ext n))) (nd : L.Nodup) (hg : ∀ a, a ∈ L ↔ Gen n ms a) => order_any base G _ W hM (by rw [List.length_map]; exact (gen_bound h.isP h.n7 nd hg).1)
  have E1 : Hid (∀ (L : List (List Nat)), L.Nodup → (∀ a, a ∈ L ↔ Gen n ms a) → (L.map (ext n)).length = ordG n ms) := fun L nd hg => by rw [List.length_map]; exact gen_len h.isP nd hg
  obtain ⟨o, Ho⟩ : ∃ o, Hid (ordG n ms = o) := ⟨_, rfl⟩
  rw [Ho.out] at E1 hk
  clear h
  by_cases h0 : k < 0
  · have hd : decide (k < 0) = true := decide_eq_true h0
    go_enter Tryz.func16, Tryz.ntmps16
    go_wp2_with (first
      | (go_at_call 40; refine C1.mono ?_; rintro e w1 ⟨rfl, b1⟩)
      | (go_at_call 42; refine (C2 _ b1).mono ?_; rintro e w2 ⟨⟨x, rfl, hx⟩, b2⟩; replace b2 := Below.next b1 b2)
      | (go_at_call 48; refine (C3 _ _ hx).mono ?_; rintro e w3 ⟨⟨G, L, rfl, hM, nd, hg⟩, b3⟩; replace b3 := Below.next b2 b3))
    exact bodyPost_ret (v := .tuple #[.slice none 0 0, .int .i64 1]) (by simp [results, Tryz.results16, go_sem]) rfl ⟨rfl, b3⟩
  · have hd : decide (k < 0) = false := decide_eq_false h0
    have hd2 : decide ((o : Int) ≤ k) = true := decide_eq_true (by omega)
    clear hk h0
    go_enter Tryz.func16, Tryz.ntmps16
    go_wp2_with (first
      | (go_at_call 40; refine C1.mono ?_; rintro e w1 ⟨rfl, b1⟩)
      | (go_at_call 42; refine (C2 _ b1).mono ?_; rintro e w2 ⟨⟨x, rfl, hx⟩, b2⟩; replace b2 := Below.next b1 b2)
      | (go_at_call 48; refine (C3 _ _ hx).mono ?_; rintro e w3 ⟨⟨G, L, rfl, hM, nd, hg⟩, b3⟩; replace b3 := Below.next b2 b3)
      | (go_at_call 49; refine (C4 _ _ _ _ hM nd hg).mono ?_; rw [E1.out L nd hg]; rintro e w4 ⟨rfl, h⟩; replace h := h.symm; subst h))
    exact bodyPost_ret (v := .tuple #[.slice none 0 0, .int .i64 1]) (by simp [results, Tryz.results16, go_sem]) rfl ⟨rfl, b3⟩

end Go.Proofs.YtgpkhfpejopacabGreatDoor.Gc
