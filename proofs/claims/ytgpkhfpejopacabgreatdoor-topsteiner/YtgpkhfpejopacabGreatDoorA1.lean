/- Blocks as they come: the walk of add. -/
import Derived.Test.YtgpkhfpejopacabGreatDoorPBase
import Derived.Shelf.Sort.Plain
import Derived.Test.YtgpkhfpejopacabGreatDoorDCo
import Derived.Test.YtgpkhfpejopacabGreatDoorTSo
import Derived.Sort.OwnSortedInts
/- The library's slices.Sort at numbers, by its contract, at this program's own numbers. -/
namespace Go.Proofs.YtgpkhfpejopacabGreatDoor
open Go.Shelf Go.RowKit Go.Lib Go.Sort

def sortI_ren : Go.Shelf.Ren := ⟨fun | 125 => 120 | 128 => 153 | 129 => 154 | 189 => 117 | 215 => 155 | 216 => 183 | 257 => 144 | 294 => 177 | 295 => 178 | 296 => 179 | 297 => 180 | 298 => 181 | 299 => 182 | 300 => 184 | 301 => 185 | 328 => 212 | 329 => 187 | 330 => 188 | 331 => 213 | 332 => 214 | 343 => 221 | n => n, fun | 0 => 0 | 3 => 3 | 4 => 4 | 5 => 5 | 9 => 9 | 28 => 29 | 46 => 131 | 51 => 206 | 53 => 191 | 131 => 116 | 182 => 199 | 183 => 200 | 218 => 230 | 222 => 234 | 228 => 251 | 229 => 252 | n => n, fun | n => n⟩
theorem sortI : Go.Proofs.Lays.n189 Tryz.prog sortI_ren := {
  mixed := by kernel_rfl
  f125 := Tryz.func120.trans (congrArg some (by kernel_rfl))
  f128 := Tryz.func153.trans (congrArg some (by kernel_rfl))
  f129 := Tryz.func154.trans (congrArg some (by kernel_rfl))
  f189 := Tryz.func117.trans (congrArg some (by kernel_rfl))
  f215 := Tryz.func155.trans (congrArg some (by kernel_rfl))
  f216 := Tryz.func183.trans (congrArg some (by kernel_rfl))
  f257 := Tryz.func144.trans (congrArg some (by kernel_rfl))
  f294 := Tryz.func177.trans (congrArg some (by kernel_rfl))
  f295 := Tryz.func178.trans (congrArg some (by kernel_rfl))
  f296 := Tryz.func179.trans (congrArg some (by kernel_rfl))
  f297 := Tryz.func180.trans (congrArg some (by kernel_rfl))
  f298 := Tryz.func181.trans (congrArg some (by kernel_rfl))
  f299 := Tryz.func182.trans (congrArg some (by kernel_rfl))
  f300 := Tryz.func184.trans (congrArg some (by kernel_rfl))
  f301 := Tryz.func185.trans (congrArg some (by kernel_rfl))
  f328 := Tryz.func212.trans (congrArg some (by kernel_rfl))
  f329 := Tryz.func187.trans (congrArg some (by kernel_rfl))
  f330 := Tryz.func188.trans (congrArg some (by kernel_rfl))
  f331 := Tryz.func213.trans (congrArg some (by kernel_rfl))
  f332 := Tryz.func214.trans (congrArg some (by kernel_rfl))
  f343 := Tryz.func221.trans (congrArg some (by kernel_rfl))
  t0 := Tryz.underlying0
  a0 := Tryz.isAgg0
  z0 := Tryz.sizeOf0
  v0 := Tryz.zeroValue0
  t3 := Tryz.underlying3
  a3 := Tryz.isAgg3
  z3 := Tryz.sizeOf3
  v3 := Tryz.zeroValue3
  t4 := Tryz.underlying4
  a4 := Tryz.isAgg4
  z4 := Tryz.sizeOf4
  v4 := Tryz.zeroValue4
  t5 := Tryz.underlying5
  a5 := Tryz.isAgg5
  z5 := Tryz.sizeOf5
  v5 := Tryz.zeroValue5
  t9 := Tryz.underlying9
  a9 := Tryz.isAgg9
  z9 := Tryz.sizeOf9
  v9 := Tryz.zeroValue9
  t28 := Tryz.underlying29
  a28 := Tryz.isAgg29
  z28 := Tryz.sizeOf29
  v28 := Tryz.zeroValue29
  t46 := Tryz.underlying131
  a46 := Tryz.isAgg131
  z46 := Tryz.sizeOf131
  v46 := Tryz.zeroValue131
  t51 := Tryz.underlying206
  a51 := Tryz.isAgg206
  z51 := Tryz.sizeOf206
  v51 := Tryz.zeroValue206
  t53 := Tryz.underlying191
  a53 := Tryz.isAgg191
  z53 := Tryz.sizeOf191
  v53 := Tryz.zeroValue191
  t131 := Tryz.underlying116
  a131 := Tryz.isAgg116
  z131 := Tryz.sizeOf116
  v131 := Tryz.zeroValue116
  t182 := Tryz.underlying199
  a182 := Tryz.isAgg199
  z182 := Tryz.sizeOf199
  v182 := Tryz.zeroValue199
  t183 := Tryz.underlying200
  a183 := Tryz.isAgg200
  z183 := Tryz.sizeOf200
  v183 := Tryz.zeroValue200
  t218 := Tryz.underlying230
  a218 := Tryz.isAgg230
  z218 := Tryz.sizeOf230
  v218 := Tryz.zeroValue230
  t222 := Tryz.underlying234
  a222 := Tryz.isAgg234
  z222 := Tryz.sizeOf234
  v222 := Tryz.zeroValue234
  t228 := Tryz.underlying251
  a228 := Tryz.isAgg251
  z228 := Tryz.sizeOf251
  v228 := Tryz.zeroValue251
  t229 := Tryz.underlying252
  a229 := Tryz.isAgg252
  z229 := Tryz.sizeOf252
  v229 := Tryz.zeroValue252 }

end Go.Proofs.YtgpkhfpejopacabGreatDoor

/- The library's sort at three numbers. -/
namespace Go.Proofs.YtgpkhfpejopacabGreatDoor
open Go.RowKit Go.Shelf Go.Sort

theorem sort3_any (x y z : Nat) (w : World) : Calls Tryz.prog 117 #[.slice (some ⟨w.heap.size, 0, none⟩) 3 3] (w.alloc (.cells #[.int .i64 (x : Int), .int .i64 (y : Int), .int .i64 (z : Int)] 3)) fun e w' =>
    e = .returned (.tuple #[]) ∧ w'.ownsRow w.heap.size 3 1 (.slice (some ⟨w.heap.size, 0, none⟩) 3 3) 3 (((s3 [x, y, z]).map Int.ofNat).map (Value.int .i64)) ∧ Below w.heap.size w w' := by
  have hb := heap_alloc_new w (.cells #[.int .i64 (x : Int), .int .i64 (y : Int), .int .i64 (z : Int)] 3)
  have hH := holds_of_blockI (ss := [x, y, z].map Int.ofNat) hb rfl
  have h := Any.slices_Sort_int sortI w.heap.size 0 3 ([x, y, z].map Int.ofNat) _ hH (by simp) (by simp)
  change Calls Tryz.prog 117 _ _ _ at h
  refine h.mono ?_
  rintro e w' ⟨rfl, n, os, rfl⟩
  rw [srt_map]
  refine ⟨rfl, ?_, ?_⟩
  · exact ownsRow_sortedI (base := w.heap.size) (n := n) (os := os) (cap := 3) (ss := [x, y, z].map Int.ofNat) (ts := (s3 [x, y, z]).map Int.ofNat) (by simp [s3_len]) (Nat.le_refl _) hb (by simp) (by unfold maxLen; omega) (by simp)
  · exact (balloc w _).grown (grownBy_sortedI _) (by simp) (fun k hk => by cases hk; exact Nat.le_refl _)

end Go.Proofs.YtgpkhfpejopacabGreatDoor

namespace Go.Proofs.YtgpkhfpejopacabGreatDoor
open Go.RowKit

/-- All blocks below a bound but one stay. -/
structure Kp (base gb : Nat) (w w' : World) : Prop where
  lo : Below gb w w'
  at' : ∀ k, k < base → k ≠ gb → w'.heap[k]? = w.heap[k]?
theorem Kp.refl (base gb : Nat) (w : World) : Kp base gb w w := ⟨Below.refl _ _, fun _ _ _ => rfl⟩
theorem Kp.trans {base gb : Nat} {a b c : World} (h : Kp base gb a b) (k : Kp base gb b c) : Kp base gb a c := ⟨h.lo.trans k.lo, fun i h1 h2 => (k.at' i h1 h2).trans (h.at' i h1 h2)⟩
theorem Kp.of {base gb n : Nat} {a b : World} (h : Below n a b) (h1 : base ≤ n) (h2 : gb ≤ n) : Kp base gb a b := ⟨h.mono h2, fun k hk _ => h.block k (by omega)⟩
/-- A list of blocks in a box. -/
def Lst (w : World) (base gb : Nat) (ty : TypeId) (rest : List Value) (L : List (List Nat)) : Prop := ∃ v, w.heap[gb]? = some (.cells (v :: rest).toArray ty (0, 0)) ∧ OR w base v L ∧ gb < base ∧ base ≤ w.heap.size
theorem Lst.below {w w' : World} {base gb : Nat} {ty : TypeId} {rest : List Value} {L : List (List Nat)} (h : Lst w base gb ty rest L) (hb : Below w.heap.size w w') : Lst w' base gb ty rest L := by
  obtain ⟨v, h1, h2, h3, h4⟩ := h
  exact ⟨v, (hb.block _ (by omega)).trans h1, h2.below hb, h3, Nat.le_trans h4 hb.size⟩
set_option maxRecDepth 100000 in
set_option maxHeartbeats 4000000 in
theorem add_any (x y z base gb : Nat) (ty : TypeId) (rest : List Value) (L : List (List Nat)) (w : World) (h : Lst w base gb ty rest L) (hl : L.length ≤ 6000) :
    Calls Tryz.prog 70 #[.pointer (some ⟨gb, 0, none⟩), .int .i64 (x : Int), .int .i64 (y : Int), .int .i64 (z : Int)] w fun e w' => e = .returned (.tuple #[]) ∧ Lst w' base gb ty rest (L ++ [s3 [x, y, z]]) ∧ Kp base gb w w' := by
  obtain ⟨v, hbx, hO, hgb, hbs⟩ := h
  have C := sort3_any x y z w
  obtain ⟨i45, ji3, jz0, jz1, jz2⟩ := info36
  obtain ⟨va, vc, rfl⟩ := hO.cap
  have HBX : Hid (∀ W, Below w.heap.size w W → W.heap[gb]? = some (.cells (.slice va L.length vc :: rest).toArray ty (0, 0))) := fun W b => (b.block gb (by omega)).trans hbx
  have HO : Hid (OR w base (.slice va L.length vc) L) := hO
  have HS3 : Hid ((s3 [x, y, z]).length = 3) := s3_len _
  obtain ⟨s, Hs⟩ : ∃ s, Hid (s3 [x, y, z] = s) := ⟨_, rfl⟩
  rw [Hs.out] at C HS3 ⊢
  obtain ⟨n, Hn⟩ : ∃ n, Hid (L.length = n) := ⟨_, rfl⟩
  rw [Hn.out] at HO HBX hl
  clear hbx hO
  go_enter Tryz.func70, Tryz.ntmps70
  go_wp2_with (first
    | (go_at_call 117; refine C.mono ?_; rintro e w1 ⟨rfl, hrow, hB⟩; clear C; have hbx := HBX.out w1 hB; have c0 : w1.cell? ⟨gb, 0, none⟩ = some (.slice va n vc) := (by rw [cell_of_row _ _ _ _ _ _ hbx]; rfl); obtain ⟨vals, h1, h2⟩ := HO.out.below hB; have HB : Hid (Below w.heap.size w w1) := hB; have HROW : Hid (w1.ownsRow w.heap.size 3 1 (.slice (some ⟨w.heap.size, 0, none⟩) 3 3) 3 ((s.map Int.ofNat).map (Value.int .i64))) := hrow; have hsz := hB.size; have HBXX : Hid (w1.heap[gb]? = some (.cells (.slice va n vc :: rest).toArray ty (0, 0))) := hbx; have H2 : Hid (∀ (i : Nat) (u : Value) (l : List Nat), vals[i]? = some u → L[i]? = some l → ORow w1 base u l) := h2; have H1 : Hid (w1.ownsRow base 29 1 (.slice va n vc) L.length vals) := h1; rw [Hn.out] at h1; clear hB hrow hbx h2 HBX)
    | (at_builtin; refine wpList_append_own _ rfl _ _ 22 rfl base 29 i45 (.slice none 0 0) 1 24 undR ji3 jz0 jz1 jz2 rfl (by decide) _ _ _ rfl (h1.alloc _) ⟨w1.heap.size, 0, none⟩ 1 1 [.slice (some ⟨w.heap.size, 0, none⟩) 3 3] rfl rfl ?c1 ?c2 ?c3 ?c4 ?c5 ?_)
    | go_in)
  case c1 =>
    intro j u hj
    match j, hj with
    | 0, hj => simp at hj; subst hj; simp [Addr.add]
  case c2 => intro u hu; simp at hu; subst hu; rfl
  case c3 => unfold maxLen; omega
  case c4 => omega
  case c5 => simp; omega
  · intro v' w2 hown' hgrow _
    have hal := balloc w1 (.cells #[.slice (some ⟨w.heap.size, 0, none⟩) 3 3] 29)
    have hB2 : Below base w1 w2 := ((Below.refl _ w1).alloc (by omega) _).grown hgrow (by simp; omega) (fun k hk => (h1.lt k hk).1)
    have hrw : ORow w1 base (.slice (some ⟨w.heap.size, 0, none⟩) 3 3) s := by
      have := own_low HROW.out hbs
      unfold ORow
      rw [HS3.out]; exact this
    have hO2 : OR w2 base v' (L ++ [s]) := OR.more (own_keep H1.out fun b _ hb => hal.block b hb) (fun i_1 u l' e1 e2 => (H2.out i_1 u l' e1 e2).below hal) (hrw.below hal) (by rw [Hn.out]; exact hown') hgrow
    obtain ⟨na, nc, rfl⟩ := own_form hown'
    have hb2 : w2.heap[gb]? = _ := (hB2.block gb hgb).trans HBXX.out
    have c1 : w2.cell? ⟨gb, 0, none⟩ = some (.slice va n vc) := by rw [cell_of_row _ _ _ _ _ _ hb2]; rfl
    have hfz : w2.frozen? ⟨gb, 0, none⟩ = false := frozen_of_row w2 gb 0 _ _ hb2
    have hb3 := heap_setCell_same w2 gb 0 _ ty (.slice na (n + 1) nc) hb2
    have hO3 := hO2.keep (w' := w2.setCell ⟨gb, 0, none⟩ (.slice na (n + 1) nc)) (fun b hb _ => heap_setCell_other w2 ⟨gb, 0, none⟩ b _ (by show b ≠ gb; omega))
    have hlo : Below gb w w2 := (HB.out.mono (by omega)).trans (hB2.mono (by omega))
    have hK : Kp base gb w (w2.setCell ⟨gb, 0, none⟩ (.slice na (n + 1) nc)) := ⟨hlo.setCell (p := ⟨gb, 0, none⟩) (Nat.le_refl _) _, fun k h1 h2 => (heap_setCell_other w2 ⟨gb, 0, none⟩ k _ h2).trans ((hB2.block k h1).trans (HB.out.block k (by omega)))⟩
    have hz : base ≤ (w2.setCell ⟨gb, 0, none⟩ (.slice na (n + 1) nc)).heap.size := by have := hB2.size; simp; omega
    clear hO2 hb2 hB2 hlo hal hgrow hown' h1 hrw c0
    go_wp2
    go_end0
    exact ⟨rfl, ⟨_, by simpa using hb3, hO3, hgb, hz⟩, hK⟩

end Go.Proofs.YtgpkhfpejopacabGreatDoor
