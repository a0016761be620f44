/- Blocks as they come: the walk of add. -/
import Derived.Test.YtdeofjmgjhfkcabDoorPBase
import Derived.Shelf.Sort.Plain
import Derived.Test.YtdeofjmgjhfkcabDoorDCo
import Derived.Test.YtdeofjmgjhfkcabDoorTSo
import Derived.Sort.OwnSortedInts
/- The library's slices.Sort at numbers, by its contract, at this program's own numbers. -/
namespace Go.Proofs.YtdeofjmgjhfkcabDoor
open Go.Shelf Go.RowKit Go.Lib Go.Sort

def sortI_ren : Go.Shelf.Ren := ⟨fun | 125 => 48 | 128 => 65 | 129 => 66 | 189 => 45 | 215 => 67 | 216 => 77 | 257 => 56 | 294 => 71 | 295 => 72 | 296 => 73 | 297 => 74 | 298 => 75 | 299 => 76 | 300 => 78 | 301 => 79 | 328 => 86 | 329 => 81 | 330 => 82 | 331 => 87 | 332 => 88 | 343 => 90 | n => n, fun | 0 => 0 | 3 => 3 | 4 => 4 | 5 => 5 | 9 => 9 | 28 => 29 | 46 => 89 | 51 => 106 | 53 => 52 | 131 => 94 | 182 => 99 | 183 => 100 | 218 => 117 | 222 => 121 | 228 => 126 | 229 => 127 | n => n, fun | n => n⟩
theorem sortI : Go.Proofs.Lays.n189 Tryd.prog sortI_ren := {
  mixed := by kernel_rfl
  f125 := Tryd.func48.trans (congrArg some (by kernel_rfl))
  f128 := Tryd.func65.trans (congrArg some (by kernel_rfl))
  f129 := Tryd.func66.trans (congrArg some (by kernel_rfl))
  f189 := Tryd.func45.trans (congrArg some (by kernel_rfl))
  f215 := Tryd.func67.trans (congrArg some (by kernel_rfl))
  f216 := Tryd.func77.trans (congrArg some (by kernel_rfl))
  f257 := Tryd.func56.trans (congrArg some (by kernel_rfl))
  f294 := Tryd.func71.trans (congrArg some (by kernel_rfl))
  f295 := Tryd.func72.trans (congrArg some (by kernel_rfl))
  f296 := Tryd.func73.trans (congrArg some (by kernel_rfl))
  f297 := Tryd.func74.trans (congrArg some (by kernel_rfl))
  f298 := Tryd.func75.trans (congrArg some (by kernel_rfl))
  f299 := Tryd.func76.trans (congrArg some (by kernel_rfl))
  f300 := Tryd.func78.trans (congrArg some (by kernel_rfl))
  f301 := Tryd.func79.trans (congrArg some (by kernel_rfl))
  f328 := Tryd.func86.trans (congrArg some (by kernel_rfl))
  f329 := Tryd.func81.trans (congrArg some (by kernel_rfl))
  f330 := Tryd.func82.trans (congrArg some (by kernel_rfl))
  f331 := Tryd.func87.trans (congrArg some (by kernel_rfl))
  f332 := Tryd.func88.trans (congrArg some (by kernel_rfl))
  f343 := Tryd.func90.trans (congrArg some (by kernel_rfl))
  t0 := Tryd.underlying0
  a0 := Tryd.isAgg0
  z0 := Tryd.sizeOf0
  v0 := Tryd.zeroValue0
  t3 := Tryd.underlying3
  a3 := Tryd.isAgg3
  z3 := Tryd.sizeOf3
  v3 := Tryd.zeroValue3
  t4 := Tryd.underlying4
  a4 := Tryd.isAgg4
  z4 := Tryd.sizeOf4
  v4 := Tryd.zeroValue4
  t5 := Tryd.underlying5
  a5 := Tryd.isAgg5
  z5 := Tryd.sizeOf5
  v5 := Tryd.zeroValue5
  t9 := Tryd.underlying9
  a9 := Tryd.isAgg9
  z9 := Tryd.sizeOf9
  v9 := Tryd.zeroValue9
  t28 := Tryd.underlying29
  a28 := Tryd.isAgg29
  z28 := Tryd.sizeOf29
  v28 := Tryd.zeroValue29
  t46 := Tryd.underlying89
  a46 := Tryd.isAgg89
  z46 := Tryd.sizeOf89
  v46 := Tryd.zeroValue89
  t51 := Tryd.underlying106
  a51 := Tryd.isAgg106
  z51 := Tryd.sizeOf106
  v51 := Tryd.zeroValue106
  t53 := Tryd.underlying52
  a53 := Tryd.isAgg52
  z53 := Tryd.sizeOf52
  v53 := Tryd.zeroValue52
  t131 := Tryd.underlying94
  a131 := Tryd.isAgg94
  z131 := Tryd.sizeOf94
  v131 := Tryd.zeroValue94
  t182 := Tryd.underlying99
  a182 := Tryd.isAgg99
  z182 := Tryd.sizeOf99
  v182 := Tryd.zeroValue99
  t183 := Tryd.underlying100
  a183 := Tryd.isAgg100
  z183 := Tryd.sizeOf100
  v183 := Tryd.zeroValue100
  t218 := Tryd.underlying117
  a218 := Tryd.isAgg117
  z218 := Tryd.sizeOf117
  v218 := Tryd.zeroValue117
  t222 := Tryd.underlying121
  a222 := Tryd.isAgg121
  z222 := Tryd.sizeOf121
  v222 := Tryd.zeroValue121
  t228 := Tryd.underlying126
  a228 := Tryd.isAgg126
  z228 := Tryd.sizeOf126
  v228 := Tryd.zeroValue126
  t229 := Tryd.underlying127
  a229 := Tryd.isAgg127
  z229 := Tryd.sizeOf127
  v229 := Tryd.zeroValue127 }

end Go.Proofs.YtdeofjmgjhfkcabDoor

/- The library's sort at three numbers. -/
namespace Go.Proofs.YtdeofjmgjhfkcabDoor
open Go.RowKit Go.Shelf Go.Sort

theorem sort3_any (x y z : Nat) (w : World) : Calls Tryd.prog 45 #[.slice (some ⟨w.heap.size, 0, none⟩) 3 3] (w.alloc (.cells #[.int .i64 (x : Int), .int .i64 (y : Int), .int .i64 (z : Int)] 3)) fun e w' =>
    e = .returned (.tuple #[]) ∧ w'.ownsRow w.heap.size 3 1 (.slice (some ⟨w.heap.size, 0, none⟩) 3 3) 3 (((s3 [x, y, z]).map Int.ofNat).map (Value.int .i64)) ∧ Below w.heap.size w w' := by
  have hb := heap_alloc_new w (.cells #[.int .i64 (x : Int), .int .i64 (y : Int), .int .i64 (z : Int)] 3)
  have hH := holds_of_blockI (ss := [x, y, z].map Int.ofNat) hb rfl
  have h := Any.slices_Sort_int sortI w.heap.size 0 3 ([x, y, z].map Int.ofNat) _ hH (by simp) (by simp)
  change Calls Tryd.prog 45 _ _ _ at h
  refine h.mono ?_
  rintro e w' ⟨rfl, n, os, rfl⟩
  rw [srt_map]
  refine ⟨rfl, ?_, ?_⟩
  · exact ownsRow_sortedI (base := w.heap.size) (n := n) (os := os) (cap := 3) (ss := [x, y, z].map Int.ofNat) (ts := (s3 [x, y, z]).map Int.ofNat) (by simp [s3_len]) (Nat.le_refl _) hb (by simp) (by unfold maxLen; omega) (by simp)
  · exact (balloc w _).grown (grownBy_sortedI _) (by simp) (fun k hk => by cases hk; exact Nat.le_refl _)

end Go.Proofs.YtdeofjmgjhfkcabDoor

namespace Go.Proofs.YtdeofjmgjhfkcabDoor
open Go.RowKit

/-- All blocks below a bound but one stay. -/
structure Kp (base gb : Nat) (w w' : World) : Prop where
  lo : Below gb w w'
  at' : ∀ k, k < base → k ≠ gb → w'.heap[k]? = w.heap[k]?
theorem Kp.refl (base gb : Nat) (w : World) : Kp base gb w w := ⟨Below.refl _ _, fun _ _ _ => rfl⟩
theorem Kp.trans {base gb : Nat} {a b c : World} (h : Kp base gb a b) (k : Kp base gb b c) : Kp base gb a c := ⟨h.lo.trans k.lo, fun i h1 h2 => (k.at' i h1 h2).trans (h.at' i h1 h2)⟩
theorem Kp.of {base gb n : Nat} {a b : World} (h : Below n a b) (h1 : base ≤ n) (h2 : gb ≤ n) : Kp base gb a b := ⟨h.mono h2, fun k hk _ => h.block k (by omega)⟩
/-- A list of blocks in a box. -/
def Lst (w : World) (base gb : Nat) (ty : TypeId) (rest : List Value) (L : List (List Nat)) : Prop := ∃ v, w.heap[gb]? = some (.cells (v :: rest).toArray ty (0, 0)) ∧ OR w base v L ∧ gb < base ∧ base ≤ w.heap.size
theorem Lst.below {w w' : World} {base gb : Nat} {ty : TypeId} {rest : List Value} {L : List (List Nat)} (h : Lst w base gb ty rest L) (hb : Below w.heap.size w w') : Lst w' base gb ty rest L := by
  obtain ⟨v, h1, h2, h3, h4⟩ := h
  exact ⟨v, (hb.block _ (by omega)).trans h1, h2.below hb, h3, Nat.le_trans h4 hb.size⟩
set_option maxRecDepth 100000 in
set_option maxHeartbeats 4000000 in
theorem add_any (x y z base gb : Nat) (ty : TypeId) (rest : List Value) (L : List (List Nat)) (w : World) (h : Lst w base gb ty rest L) (hl : L.length ≤ 6000) :
    Calls Tryd.prog 25 #[.pointer (some ⟨gb, 0, none⟩), .int .i64 (x : Int), .int .i64 (y : Int), .int .i64 (z : Int)] w fun e w' => e = .returned (.tuple #[]) ∧ Lst w' base gb ty rest (L ++ [s3 [x, y, z]]) ∧ Kp base gb w w' := by
  obtain ⟨v, hbx, hO, hgb, hbs⟩ := h
  have C := sort3_any x y z w
  obtain ⟨i45, ji3, jz0, jz1, jz2⟩ := info36
  obtain ⟨va, vc, rfl⟩ := hO.cap
  have HBX : Hid (∀ W, Below w.heap.size w W → W.heap[gb]? = some (.cells (.slice va L.length vc :: rest).toArray ty (0, 0))) := fun W b => (b.block gb (by omega)).trans hbx
  have HO : Hid (OR w base (.slice va L.length vc) L) := hO
  have HS3 : Hid ((s3 [x, y, z]).length = 3) := s3_len _
  obtain ⟨s, Hs⟩ : ∃ s, Hid (s3 [x, y, z] = s) := ⟨_, rfl⟩
  rw [Hs.out] at C HS3 ⊢
  obtain ⟨n, Hn⟩ : ∃ n, Hid (L.length = n) := ⟨_, rfl⟩
  rw [Hn.out] at HO HBX hl
  clear hbx hO
  go_enter Tryd.func25, Tryd.ntmps25
  go_wp2_with (first
    | (go_at_call 45; refine C.mono ?_; rintro e w1 ⟨rfl, hrow, hB⟩; clear C; have hbx := HBX.out w1 hB; have c0 : w1.cell? ⟨gb, 0, none⟩ = some (.slice va n vc) := (by rw [cell_of_row _ _ _ _ _ _ hbx]; rfl); obtain ⟨vals, h1, h2⟩ := HO.out.below hB; have HB : Hid (Below w.heap.size w w1) := hB; have HROW : Hid (w1.ownsRow w.heap.size 3 1 (.slice (some ⟨w.heap.size, 0, none⟩) 3 3) 3 ((s.map Int.ofNat).map (Value.int .i64))) := hrow; have hsz := hB.size; have HBXX : Hid (w1.heap[gb]? = some (.cells (.slice va n vc :: rest).toArray ty (0, 0))) := hbx; have H2 : Hid (∀ (i : Nat) (u : Value) (l : List Nat), vals[i]? = some u → L[i]? = some l → ORow w1 base u l) := h2; have H1 : Hid (w1.ownsRow base 29 1 (.slice va n vc) L.length vals) := h1; rw [Hn.out] at h1; clear hB hrow hbx h2 HBX)
    | (at_builtin; refine wpList_append_own _ rfl _ _ 22 rfl base 29 i45 (.slice none 0 0) 1 24 undR ji3 jz0 jz1 jz2 rfl (by decide) _ _ _ rfl (h1.alloc _) ⟨w1.heap.size, 0, none⟩ 1 1 [.slice (some ⟨w.heap.size, 0, none⟩) 3 3] rfl rfl ?c1 ?c2 ?c3 ?c4 ?c5 ?_)
    | go_in)
  case c1 =>
    intro j u hj
    match j, hj with
    | 0, hj => simp at hj; subst hj; simp [Addr.add]
  case c2 => intro u hu; simp at hu; subst hu; rfl
  case c3 => unfold maxLen; omega
  case c4 => omega
  case c5 => simp; omega
  · intro v' w2 hown' hgrow _
    have hal := balloc w1 (.cells #[.slice (some ⟨w.heap.size, 0, none⟩) 3 3] 29)
    have hB2 : Below base w1 w2 := ((Below.refl _ w1).alloc (by omega) _).grown hgrow (by simp; omega) (fun k hk => (h1.lt k hk).1)
    have hrw : ORow w1 base (.slice (some ⟨w.heap.size, 0, none⟩) 3 3) s := by
      have := own_low HROW.out hbs
      unfold ORow
      rw [HS3.out]; exact this
    have hO2 : OR w2 base v' (L ++ [s]) := OR.more (own_keep H1.out fun b _ hb => hal.block b hb) (fun i_1 u l' e1 e2 => (H2.out i_1 u l' e1 e2).below hal) (hrw.below hal) (by rw [Hn.out]; exact hown') hgrow
    obtain ⟨na, nc, rfl⟩ := own_form hown'
    have hb2 : w2.heap[gb]? = _ := (hB2.block gb hgb).trans HBXX.out
    have c1 : w2.cell? ⟨gb, 0, none⟩ = some (.slice va n vc) := by rw [cell_of_row _ _ _ _ _ _ hb2]; rfl
    have hfz : w2.frozen? ⟨gb, 0, none⟩ = false := frozen_of_row w2 gb 0 _ _ hb2
    have hb3 := heap_setCell_same w2 gb 0 _ ty (.slice na (n + 1) nc) hb2
    have hO3 := hO2.keep (w' := w2.setCell ⟨gb, 0, none⟩ (.slice na (n + 1) nc)) (fun b hb _ => heap_setCell_other w2 ⟨gb, 0, none⟩ b _ (by show b ≠ gb; omega))
    have hlo : Below gb w w2 := (HB.out.mono (by omega)).trans (hB2.mono (by omega))
    have hK : Kp base gb w (w2.setCell ⟨gb, 0, none⟩ (.slice na (n + 1) nc)) := ⟨hlo.setCell (p := ⟨gb, 0, none⟩) (Nat.le_refl _) _, fun k h1 h2 => (heap_setCell_other w2 ⟨gb, 0, none⟩ k _ h2).trans ((hB2.block k h1).trans (HB.out.block k (by omega)))⟩
    have hz : base ≤ (w2.setCell ⟨gb, 0, none⟩ (.slice na (n + 1) nc)).heap.size := by have := hB2.size; simp; omega
    clear hO2 hb2 hB2 hlo hal hgrow hown' h1 hrw c0
    go_wp2
    go_end0
    exact ⟨rfl, ⟨_, by simpa using hb3, hO3, hgb, hz⟩, hK⟩

end Go.Proofs.YtdeofjmgjhfkcabDoor
