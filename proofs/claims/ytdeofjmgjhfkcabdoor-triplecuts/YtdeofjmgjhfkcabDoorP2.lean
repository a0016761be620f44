/- The walk of product. -/
import Derived.Test.YtdeofjmgjhfkcabDoorA8
import Derived.Test.YtdeofjmgjhfkcabDoorTDou
import Derived.Test.YtdeofjmgjhfkcabDoorTPro
/- The walks of pair and pairAll. -/
/- The walk of double. -/
namespace Go.Proofs.YtdeofjmgjhfkcabDoor
open Go.RowKit

/-- The three boxes of a maker out of others: what is handed in, the answer, the blocks. -/
structure Bx3 (s v m : Nat) (u : Value) (W : World) : Prop where
  d : W.heap[s]? = some (.cells #[.int .i64 (v : Int), u] 25 (0, 0))
  r : W.heap[s + 1]? = some (.cells #[.int .i64 0, .slice none 0 0] 25 (0, 0))
  b : ∃ x, W.heap[s + 2]? = some (.cells #[x, .int .i64 (m : Int)] 79 (0, 0))
theorem Bx3.kp {s v m : Nat} {u : Value} {W W' : World} {L : List (List Nat)} (h : Bx3 s v m u W) (k : Kp (s + 3) (s + 2) W W') (hL : RowB W' (s + 3) (s + 2) m L) : Bx3 s v m u W' := by
  obtain ⟨x, h1, _⟩ := hL
  exact ⟨(k.at' s (by omega) (by omega)).trans h.d, (k.at' (s + 1) (by omega) (by omega)).trans h.r, x, h1⟩
theorem Bx3.cells {s v m : Nat} {u : Value} {W : World} (h : Bx3 s v m u W) : W.cell? ⟨s, 0, none⟩ = some (.int .i64 (v : Int)) ∧ W.cell? ⟨s, 1, none⟩ = some u ∧ W.cell? ⟨s + 1 + 1, 1, none⟩ = some (.int .i64 (m : Int)) := by
  obtain ⟨x, hb⟩ := h.b
  exact ⟨by rw [cell_of_row _ _ _ _ _ _ h.d]; rfl, by rw [cell_of_row _ _ _ _ _ _ h.d]; rfl, by rw [cell_of_row _ _ _ _ _ _ hb]; rfl⟩
def W3 (w : World) (v m : Nat) (u : Value) : World := ((w.alloc (.cells #[.int .i64 (v : Int), u] 25)).alloc (.cells #[.int .i64 0, .slice none 0 0] 25)).alloc (.cells #[.slice none 0 0, .int .i64 (m : Int)] 79)
theorem W3_size (w : World) (v m : Nat) (u : Value) : (W3 w v m u).heap.size = w.heap.size + 3 := by simp [W3]
theorem W3_bx (w : World) (v m : Nat) (u : Value) : Bx3 w.heap.size v m u (W3 w v m u) ∧ RowB (W3 w v m u) (w.heap.size + 3) (w.heap.size + 2) m [] := by
  have e1 := heap_alloc_new w (.cells #[.int .i64 (v : Int), u] 25)
  have e2 := heap_alloc_new (w.alloc (.cells #[.int .i64 (v : Int), u] 25)) (.cells #[.int .i64 0, .slice none 0 0] 25)
  have e3 := heap_alloc_new ((w.alloc (.cells #[.int .i64 (v : Int), u] 25)).alloc (.cells #[.int .i64 0, .slice none 0 0] 25)) (.cells #[.slice none 0 0, .int .i64 (m : Int)] 79)
  rw [show (w.alloc (.cells #[.int .i64 (v : Int), u] 25)).heap.size = w.heap.size + 1 by simp] at e2
  rw [show ((w.alloc (.cells #[.int .i64 (v : Int), u] 25)).alloc (.cells #[.int .i64 0, .slice none 0 0] 25)).heap.size = w.heap.size + 2 by simp] at e3
  have k := fun (W : World) (o : Obj) (b : Nat) (hb : b < W.heap.size) => (balloc W o).block b hb
  exact ⟨⟨(k _ _ _ (by simp; omega)).trans ((k _ _ _ (by simp)).trans e1), (k _ _ _ (by simp)).trans e2, _, e3⟩, .slice none 0 0, e3, OR.nil _ _, by omega, by rw [W3_size]; exact Nat.le_refl _⟩
theorem W3_below (w : World) (v m : Nat) (u : Value) : Below w.heap.size w (W3 w v m u) := Below.next (Below.next (balloc _ _) (balloc _ _)) (balloc _ _)
/-- The blocks of the doubled system, as they come. -/
def duL (v x : Nat) : List (List Nat) := (List.range x).map fun x => s3 [0 * v + x, 1 * v + x, 2 * v + 0]
def dbI (v : Nat) (b : List Nat) (i : Nat) : List (List Nat) := (List.range i).map fun i => s3 [0 * v + b.getD i 0, 1 * v + b.getD ((i + 1) % 3) 0, 1 * v + b.getD ((i + 2) % 3) 0]
def dbB (v : Nat) (B : List (List Nat)) : List (List Nat) := B.flatMap fun b => s3 [b.getD 0 0, b.getD 1 0, b.getD 2 0] :: dbI v b 3
def dbP (v : Nat) (B : List (List Nat)) : List (List Nat) := duL v v ++ dbB v B
theorem duL_succ (v x : Nat) : duL v (x + 1) = duL v x ++ [s3 [0 * v + x, 1 * v + x, 2 * v + 0]] := by unfold duL; rw [List.range_succ, List.map_append]; rfl
theorem duL_len (v x : Nat) : (duL v x).length = x := by simp [duL]
theorem dbI_succ (v : Nat) (b : List Nat) (i : Nat) : dbI v b (i + 1) = dbI v b i ++ [s3 [0 * v + b.getD i 0, 1 * v + b.getD ((i + 1) % 3) 0, 1 * v + b.getD ((i + 2) % 3) 0]] := by unfold dbI; rw [List.range_succ, List.map_append]; rfl
theorem dbI_len (v : Nat) (b : List Nat) (i : Nat) : (dbI v b i).length = i := by simp [dbI]
theorem dbB_succ {v i : Nat} {B : List (List Nat)} {b : List Nat} (h : B[i]? = some b) : dbB v (B.take (i + 1)) = (dbB v (B.take i) ++ [s3 [b.getD 0 0, b.getD 1 0, b.getD 2 0]]) ++ dbI v b 3 := by
  unfold dbB
  rw [List.take_add_one, h, List.flatMap_append]
  simp
theorem dbB_len (v : Nat) : ∀ B : List (List Nat), (dbB v B).length = 4 * B.length
  | [] => rfl
  | b :: B => by
    have := dbB_len v B
    unfold dbB at this ⊢
    rw [List.flatMap_cons, List.length_append, this, List.length_cons, List.length_cons, dbI_len]
    omega
theorem dbP_three (v : Nat) (B : List (List Nat)) : ∀ b ∈ dbP v B, b.length = 3 := fun b hb => by
  rcases List.mem_append.1 hb with h | h
  · unfold duL at h
    obtain ⟨_, _, rfl⟩ := List.mem_map.1 h
    rw [s3_len]; rfl
  · unfold dbB at h
    obtain ⟨_, _, h⟩ := List.mem_flatMap.1 h
    rcases List.mem_cons.1 h with rfl | h
    · rw [s3_len]; rfl
    · unfold dbI at h
      obtain ⟨_, _, rfl⟩ := List.mem_map.1 h
      rw [s3_len]; rfl
/-- A block of three, where it lies. -/
theorem row3 {W : World} {ua : Option Addr} {uc : Nat} {b : List Nat} (h3 : b.length = 3) (h : Sl W (.slice ua b.length uc) (b.map Int.ofNat)) : ∃ bb off, ua = some ⟨bb, off, none⟩ ∧ ∀ j, j < 3 → W.cell? ⟨bb, off + j, none⟩ = some (.int .i64 ((b.getD j 0 : Nat) : Int)) := by
  obtain ⟨a, cap, e, h⟩ := sl_at h
  cases e
  obtain ⟨bb, off, rfl, _⟩ := h 0 (by omega)
  refine ⟨bb, off, rfl, fun j hj => ?_⟩
  obtain ⟨b', o', e, hc⟩ := h j (by omega)
  cases e
  exact hc
end Go.Proofs.YtdeofjmgjhfkcabDoor

namespace Go.Proofs.YtdeofjmgjhfkcabDoor
open Go.RowKit

/-- Rows of numbers stay. -/
def KpI (w w' : World) : Prop := ∀ (k : Nat) (c : Array Value) (fz : Nat × Nat), w.heap[k]? = some (Obj.cells c 3 fz) → w'.heap[k]? = some (Obj.cells c 3 fz)
theorem KpI.refl (w : World) : KpI w w := fun _ _ _ h => h
theorem KpI.trans {a b c : World} (h : KpI a b) (k : KpI b c) : KpI a c := fun i x fz e => k i x fz (h i x fz e)
theorem KpI.of {a b : World} (h : Below a.heap.size a b) : KpI a b := fun k _ _ e => (h.block k (Array.getElem?_eq_some_iff.1 e).1).trans e
set_option maxRecDepth 100000 in
set_option maxHeartbeats 4000000 in
theorem add_int (x y z base gb : Nat) (ty : TypeId) (rest : List Value) (L : List (List Nat)) (w : World) (h : Lst w base gb ty rest L) (hl : L.length ≤ 6000) (hty : ty ≠ 3) :
    Calls Tryd.prog 25 #[.pointer (some ⟨gb, 0, none⟩), .int .i64 (x : Int), .int .i64 (y : Int), .int .i64 (z : Int)] w fun e w' => e = .returned (.tuple #[]) ∧ Lst w' base gb ty rest (L ++ [s3 [x, y, z]]) ∧ Kp base gb w w' ∧ KpI w w' := by
  obtain ⟨v, hbx, hO, hgb, hbs⟩ := h
  have C := sort3_any x y z w
  obtain ⟨i45, ji3, jz0, jz1, jz2⟩ := info36
  obtain ⟨va, vc, rfl⟩ := hO.cap
  have HBX : Hid (∀ W, Below w.heap.size w W → W.heap[gb]? = some (.cells (.slice va L.length vc :: rest).toArray ty (0, 0))) := fun W b => (b.block gb (by omega)).trans hbx
  have HO : Hid (OR w base (.slice va L.length vc) L) := hO
  have HS3 : Hid ((s3 [x, y, z]).length = 3) := s3_len _
  obtain ⟨s, Hs⟩ : ∃ s, Hid (s3 [x, y, z] = s) := ⟨_, rfl⟩
  rw [Hs.out] at C HS3 ⊢
  obtain ⟨n, Hn⟩ : ∃ n, Hid (L.length = n) := ⟨_, rfl⟩
  rw [Hn.out] at HO HBX hl
  clear hbx hO
  go_enter Tryd.func25, Tryd.ntmps25
  go_wp2_with (first
    | (go_at_call 45; refine C.mono ?_; rintro e w1 ⟨rfl, hrow, hB⟩; clear C; have hbx := HBX.out w1 hB; have c0 : w1.cell? ⟨gb, 0, none⟩ = some (.slice va n vc) := (by rw [cell_of_row _ _ _ _ _ _ hbx]; rfl); obtain ⟨vals, h1, h2⟩ := HO.out.below hB; have HB : Hid (Below w.heap.size w w1) := hB; have HROW : Hid (w1.ownsRow w.heap.size 3 1 (.slice (some ⟨w.heap.size, 0, none⟩) 3 3) 3 ((s.map Int.ofNat).map (Value.int .i64))) := hrow; have hsz := hB.size; have HBXX : Hid (w1.heap[gb]? = some (.cells (.slice va n vc :: rest).toArray ty (0, 0))) := hbx; have H2 : Hid (∀ (i : Nat) (u : Value) (l : List Nat), vals[i]? = some u → L[i]? = some l → ORow w1 base u l) := h2; have H1 : Hid (w1.ownsRow base 29 1 (.slice va n vc) L.length vals) := h1; rw [Hn.out] at h1; clear hB hrow hbx h2 HBX)
    | (at_builtin; refine wpList_append_own _ rfl _ _ 22 rfl base 29 i45 (.slice none 0 0) 1 24 undR ji3 jz0 jz1 jz2 rfl (by decide) _ _ _ rfl (h1.alloc _) ⟨w1.heap.size, 0, none⟩ 1 1 [.slice (some ⟨w.heap.size, 0, none⟩) 3 3] rfl rfl ?c1 ?c2 ?c3 ?c4 ?c5 ?_)
    | go_in)
  case c1 =>
    intro j u hj
    match j, hj with
    | 0, hj => simp at hj; subst hj; simp [Addr.add]
  case c2 => intro u hu; simp at hu; subst hu; rfl
  case c3 => unfold maxLen; omega
  case c4 => omega
  case c5 => simp; omega
  · intro v' w2 hown' hgrow _
    have hal := balloc w1 (.cells #[.slice (some ⟨w.heap.size, 0, none⟩) 3 3] 29)
    have hB2 : Below base w1 w2 := ((Below.refl _ w1).alloc (by omega) _).grown hgrow (by simp; omega) (fun k hk => (h1.lt k hk).1)
    have hrw : ORow w1 base (.slice (some ⟨w.heap.size, 0, none⟩) 3 3) s := by
      have := own_low HROW.out hbs
      unfold ORow
      rw [HS3.out]; exact this
    have hO2 : OR w2 base v' (L ++ [s]) := OR.more (own_keep H1.out fun b _ hb => hal.block b hb) (fun i_1 u l' e1 e2 => (H2.out i_1 u l' e1 e2).below hal) (hrw.below hal) (by rw [Hn.out]; exact hown') hgrow
    obtain ⟨na, nc, rfl⟩ := own_form hown'
    have hb2 : w2.heap[gb]? = _ := (hB2.block gb hgb).trans HBXX.out
    have c1 : w2.cell? ⟨gb, 0, none⟩ = some (.slice va n vc) := by rw [cell_of_row _ _ _ _ _ _ hb2]; rfl
    have hfz : w2.frozen? ⟨gb, 0, none⟩ = false := frozen_of_row w2 gb 0 _ _ hb2
    have hb3 := heap_setCell_same w2 gb 0 _ ty (.slice na (n + 1) nc) hb2
    have hO3 := hO2.keep (w' := w2.setCell ⟨gb, 0, none⟩ (.slice na (n + 1) nc)) (fun b hb _ => heap_setCell_other w2 ⟨gb, 0, none⟩ b _ (by show b ≠ gb; omega))
    have hlo : Below gb w w2 := (HB.out.mono (by omega)).trans (hB2.mono (by omega))
    have hK : Kp base gb w (w2.setCell ⟨gb, 0, none⟩ (.slice na (n + 1) nc)) := ⟨hlo.setCell (p := ⟨gb, 0, none⟩) (Nat.le_refl _) _, fun k h1 h2 => (heap_setCell_other w2 ⟨gb, 0, none⟩ k _ h2).trans ((hB2.block k h1).trans (HB.out.block k (by omega)))⟩
    have hz : base ≤ (w2.setCell ⟨gb, 0, none⟩ (.slice na (n + 1) nc)).heap.size := by have := hB2.size; simp; omega
    have hKI : KpI w (w2.setCell ⟨gb, 0, none⟩ (.slice na (n + 1) nc)) := fun k c fz hk => by
      have hkl : k < w.heap.size := (Array.getElem?_eq_some_iff.1 hk).1
      have hk1 : w1.heap[k]? = _ := (HB.out.block k hkl).trans hk
      have hne : k ≠ gb := fun e => by
        rw [e, HBXX.out] at hk1
        simp at hk1
        exact hty hk1.2.1
      have hno : (Value.slice va n vc).ownBlock ≠ some k := fun e => by
        obtain ⟨_, ⟨e1, _⟩ | ⟨g, cap, cur, e1, _, hg, _⟩⟩ := h1
        · cases e1; simp [Value.ownBlock] at e
        · cases e1
          have e2 : g = k := by simpa [Value.ownBlock] using e
          rw [e2, hk1] at hg
          simp at hg
      exact (heap_setCell_other w2 ⟨gb, 0, none⟩ k _ hne).trans ((hgrow.block k (by simp; omega) fun e => hno e.symm).trans ((hal.block k (by omega)).trans hk1))
    clear hO2 hb2 hB2 hlo hal hgrow hown' h1 hrw c0
    go_wp2
    go_end0
    exact ⟨rfl, ⟨_, by simpa using hb3, hO3, hgb, hz⟩, hK, hKI⟩

/-- Three numbers that are read, whatever is added meanwhile. -/
def R3 (base gb : Nat) (w : World) (b o : Nat) (x y z : Nat) : Prop := ∀ W, Kp base gb w W → KpI w W → W.cell? ⟨b, o, none⟩ = some (.int .i64 (x : Int)) ∧ W.cell? ⟨b, o + 1, none⟩ = some (.int .i64 (y : Int)) ∧ W.cell? ⟨b, o + 2, none⟩ = some (.int .i64 (z : Int))
theorem R3.step {base gb b o x y z : Nat} {w w' : World} (h : R3 base gb w b o x y z) (k : Kp base gb w w') (i : KpI w w') : R3 base gb w' b o x y z := fun W hk hi => h W (k.trans hk) (i.trans hi)
theorem R3.new (base gb : Nat) (w : World) (x y z : Nat) : R3 base gb (w.alloc (.cells #[.int .i64 (x : Int), .int .i64 (y : Int), .int .i64 (z : Int)] 3)) w.heap.size 0 x y z := fun W _ hi => by
  have h := hi _ _ _ (heap_alloc_new w (.cells #[.int .i64 (x : Int), .int .i64 (y : Int), .int .i64 (z : Int)] 3))
  exact ⟨by rw [cell_of_row _ _ _ _ _ _ h]; rfl, by rw [cell_of_row _ _ _ _ _ _ h]; rfl, by rw [cell_of_row _ _ _ _ _ _ h]; rfl⟩
def sxI (m : Nat) (R P : Nat → Nat) (i : Nat) : List (List Nat) := (List.range i).flatMap fun i => [s3 [R 0 * m + P i, R 1 * m + P ((i + 1) % 3), R 2 * m + P ((i + 2) % 3)], s3 [R 0 * m + P i, R 1 * m + P ((i + 2) % 3), R 2 * m + P ((i + 1) % 3)]]
theorem sxI_succ (m : Nat) (R P : Nat → Nat) (i : Nat) : sxI m R P (i + 1) = (sxI m R P i ++ [s3 [R 0 * m + P i, R 1 * m + P ((i + 1) % 3), R 2 * m + P ((i + 2) % 3)]]) ++ [s3 [R 0 * m + P i, R 1 * m + P ((i + 2) % 3), R 2 * m + P ((i + 1) % 3)]] := by unfold sxI; rw [List.range_succ, List.flatMap_append]; simp
theorem sxI_len (m : Nat) (R P : Nat → Nat) : ∀ i, (sxI m R P i).length = 2 * i
  | 0 => rfl
  | i + 1 => by rw [sxI_succ, List.length_append, List.length_append, sxI_len m R P i]; simp; omega
theorem Kp.alloc {base gb : Nat} {w : World} (o : Obj) (h1 : base ≤ w.heap.size) (h2 : gb ≤ w.heap.size) : Kp base gb w (w.alloc o) := Kp.of (balloc w o) h1 h2
theorem Lst.alloc {w : World} {base gb : Nat} {ty : TypeId} {rest : List Value} {L : List (List Nat)} (h : Lst w base gb ty rest L) (o : Obj) : Lst (w.alloc o) base gb ty rest L := h.below (balloc w o)
end Go.Proofs.YtdeofjmgjhfkcabDoor

namespace Go.Proofs.YtdeofjmgjhfkcabDoor
open Go.RowKit

/-- The boxes of the product. -/
structure Bx5 (s v m : Nat) (ua ub : Value) (W : World) : Prop where
  a : W.heap[s]? = some (.cells #[.int .i64 (v : Int), ua] 25 (0, 0))
  b : W.heap[s + 1]? = some (.cells #[.int .i64 (m : Int), ub] 25 (0, 0))
  r : W.heap[s + 2]? = some (.cells #[.int .i64 0, .slice none 0 0] 25 (0, 0))
  x : ∃ x, W.heap[s + 3]? = some (.cells #[x, .int .i64 (m : Int)] 79 (0, 0))
theorem Bx5.kp {s v m : Nat} {ua ub : Value} {W W' : World} {L : List (List Nat)} (h : Bx5 s v m ua ub W) (k : Kp (s + 4) (s + 3) W W') (hL : RowB W' (s + 4) (s + 3) m L) : Bx5 s v m ua ub W' := by
  obtain ⟨x, h1, _⟩ := hL
  exact ⟨(k.at' s (by omega) (by omega)).trans h.a, (k.at' (s + 1) (by omega) (by omega)).trans h.b, (k.at' (s + 2) (by omega) (by omega)).trans h.r, x, h1⟩
theorem Bx5.cells {s v m : Nat} {ua ub : Value} {W : World} (h : Bx5 s v m ua ub W) : (W.cell? ⟨s, 0, none⟩ = some (.int .i64 (v : Int)) ∧ W.cell? ⟨s, 1, none⟩ = some ua) ∧ (W.cell? ⟨s + 1, 0, none⟩ = some (.int .i64 (m : Int)) ∧ W.cell? ⟨s + 1, 1, none⟩ = some ub) :=
  ⟨⟨by rw [cell_of_row _ _ _ _ _ _ h.a]; rfl, by rw [cell_of_row _ _ _ _ _ _ h.a]; rfl⟩, by rw [cell_of_row _ _ _ _ _ _ h.b]; rfl, by rw [cell_of_row _ _ _ _ _ _ h.b]; rfl⟩
def W5 (w : World) (v m : Nat) (ua ub : Value) : World := (((w.alloc (.cells #[.int .i64 (v : Int), ua] 25)).alloc (.cells #[.int .i64 (m : Int), ub] 25)).alloc (.cells #[.int .i64 0, .slice none 0 0] 25)).alloc (.cells #[.slice none 0 0, .int .i64 (m : Int)] 79)
theorem W5_size (w : World) (v m : Nat) (ua ub : Value) : (W5 w v m ua ub).heap.size = w.heap.size + 4 := by simp [W5]
theorem W5_bx (w : World) (v m : Nat) (ua ub : Value) : Bx5 w.heap.size v m ua ub (W5 w v m ua ub) ∧ RowB (W5 w v m ua ub) (w.heap.size + 4) (w.heap.size + 3) m [] := by
  have e1 := heap_alloc_new w (.cells #[.int .i64 (v : Int), ua] 25)
  have e2 := heap_alloc_new (w.alloc (.cells #[.int .i64 (v : Int), ua] 25)) (.cells #[.int .i64 (m : Int), ub] 25)
  have e3 := heap_alloc_new ((w.alloc (.cells #[.int .i64 (v : Int), ua] 25)).alloc (.cells #[.int .i64 (m : Int), ub] 25)) (.cells #[.int .i64 0, .slice none 0 0] 25)
  have e4 := heap_alloc_new (((w.alloc (.cells #[.int .i64 (v : Int), ua] 25)).alloc (.cells #[.int .i64 (m : Int), ub] 25)).alloc (.cells #[.int .i64 0, .slice none 0 0] 25)) (.cells #[.slice none 0 0, .int .i64 (m : Int)] 79)
  rw [show (w.alloc (.cells #[.int .i64 (v : Int), ua] 25)).heap.size = w.heap.size + 1 by simp] at e2
  rw [show ((w.alloc (.cells #[.int .i64 (v : Int), ua] 25)).alloc (.cells #[.int .i64 (m : Int), ub] 25)).heap.size = w.heap.size + 2 by simp] at e3
  rw [show (((w.alloc (.cells #[.int .i64 (v : Int), ua] 25)).alloc (.cells #[.int .i64 (m : Int), ub] 25)).alloc (.cells #[.int .i64 0, .slice none 0 0] 25)).heap.size = w.heap.size + 3 by simp] at e4
  have k := fun (W : World) (o : Obj) (b : Nat) (hb : b < W.heap.size) => (balloc W o).block b hb
  exact ⟨⟨(k _ _ _ (by simp <;> omega)).trans ((k _ _ _ (by simp <;> omega)).trans ((k _ _ _ (by simp)).trans e1)), (k _ _ _ (by simp <;> omega)).trans ((k _ _ _ (by simp)).trans e2), (k _ _ _ (by simp)).trans e3, _, e4⟩, .slice none 0 0, e4, OR.nil _ _, by omega, by rw [W5_size]; exact Nat.le_refl _⟩
theorem W5_below (w : World) (v m : Nat) (ua ub : Value) : Below w.heap.size w (W5 w v m ua ub) := Below.next (Below.next (Below.next (balloc _ _) (balloc _ _)) (balloc _ _)) (balloc _ _)
def p1i (m x : Nat) (C : List (List Nat)) : List (List Nat) := C.map fun c => s3 [x * m + c.getD 0 0, x * m + c.getD 1 0, x * m + c.getD 2 0]
def p1 (m : Nat) (C : List (List Nat)) (x : Nat) : List (List Nat) := (List.range x).flatMap fun x => p1i m x C
def p2y (m : Nat) (a : List Nat) (y : Nat) : List (List Nat) := (List.range y).map fun y => s3 [a.getD 0 0 * m + y, a.getD 1 0 * m + y, a.getD 2 0 * m + y]
def p2c (m : Nat) (a : List Nat) (C : List (List Nat)) : List (List Nat) := C.flatMap fun c => sxI m (fun j => a.getD j 0) (fun j => c.getD j 0) 3
def p2 (m : Nat) (C A : List (List Nat)) : List (List Nat) := A.flatMap fun a => p2y m a m ++ p2c m a C
def prP (v m : Nat) (A C : List (List Nat)) : List (List Nat) := p1 m C v ++ p2 m C A
theorem p1i_succ {m x i : Nat} {C : List (List Nat)} {c : List Nat} (h : C[i]? = some c) : p1i m x (C.take (i + 1)) = p1i m x (C.take i) ++ [s3 [x * m + c.getD 0 0, x * m + c.getD 1 0, x * m + c.getD 2 0]] := by unfold p1i; rw [List.take_add_one, h, List.map_append]; rfl
theorem p1_succ (m : Nat) (C : List (List Nat)) (x : Nat) : p1 m C (x + 1) = p1 m C x ++ p1i m x C := by unfold p1; rw [List.range_succ, List.flatMap_append]; simp
theorem p2y_succ (m : Nat) (a : List Nat) (y : Nat) : p2y m a (y + 1) = p2y m a y ++ [s3 [a.getD 0 0 * m + y, a.getD 1 0 * m + y, a.getD 2 0 * m + y]] := by unfold p2y; rw [List.range_succ, List.map_append]; rfl
theorem p2c_succ {m i : Nat} {a : List Nat} {C : List (List Nat)} {c : List Nat} (h : C[i]? = some c) : p2c m a (C.take (i + 1)) = p2c m a (C.take i) ++ sxI m (fun j => a.getD j 0) (fun j => c.getD j 0) 3 := by unfold p2c; rw [List.take_add_one, h, List.flatMap_append]; simp
theorem p2_succ {m i : Nat} {A C : List (List Nat)} {a : List Nat} (h : A[i]? = some a) : p2 m C (A.take (i + 1)) = (p2 m C (A.take i) ++ p2y m a m) ++ p2c m a C := by unfold p2; rw [List.take_add_one, h, List.flatMap_append]; simp
theorem p1i_len (m x : Nat) (C : List (List Nat)) : (p1i m x C).length = C.length := by simp [p1i]
theorem p1_len (m : Nat) (C : List (List Nat)) : ∀ x, (p1 m C x).length = x * C.length
  | 0 => by simp [p1]
  | x + 1 => by rw [p1_succ, List.length_append, p1_len m C x, p1i_len, Nat.add_mul, Nat.one_mul]
theorem p2y_len (m : Nat) (a : List Nat) (y : Nat) : (p2y m a y).length = y := by simp [p2y]
theorem p2c_len (m : Nat) (a : List Nat) : ∀ C : List (List Nat), (p2c m a C).length = 6 * C.length
  | [] => rfl
  | c :: C => by
    have := p2c_len m a C
    unfold p2c at this ⊢
    rw [List.flatMap_cons, List.length_append, this, sxI_len, List.length_cons]; omega
theorem p2_len (m : Nat) (C : List (List Nat)) : ∀ A : List (List Nat), (p2 m C A).length = A.length * (m + 6 * C.length)
  | [] => by simp [p2]
  | a :: A => by
    have := p2_len m C A
    unfold p2 at this ⊢
    rw [List.flatMap_cons, List.length_append, this, List.length_append, p2y_len, p2c_len, List.length_cons, Nat.add_mul, Nat.one_mul]; omega
theorem prP_three (v m : Nat) (A C : List (List Nat)) : ∀ b ∈ prP v m A C, b.length = 3 := fun b hb => by
  rcases List.mem_append.1 hb with h | h
  · unfold p1 at h
    obtain ⟨_, _, h⟩ := List.mem_flatMap.1 h
    unfold p1i at h
    obtain ⟨_, _, rfl⟩ := List.mem_map.1 h
    rw [s3_len]; rfl
  · unfold p2 at h
    obtain ⟨_, _, h⟩ := List.mem_flatMap.1 h
    rcases List.mem_append.1 h with h | h
    · unfold p2y at h
      obtain ⟨_, _, rfl⟩ := List.mem_map.1 h
      rw [s3_len]; rfl
    · unfold p2c at h
      obtain ⟨_, _, h⟩ := List.mem_flatMap.1 h
      unfold sxI at h
      obtain ⟨_, _, h⟩ := List.mem_flatMap.1 h
      simp only [List.mem_cons, List.not_mem_nil, or_false] at h
      rcases h with rfl | rfl
      · rw [s3_len]; rfl
      · rw [s3_len]; rfl
theorem R3.read {base gb s b o : Nat} {w wr : World} {R : Nat → Nat} (hB : Below s w wr) (hs : s ≤ gb) (h : ∀ W, Below s w W → ∀ j, j < 3 → W.cell? ⟨b, o + j, none⟩ = some (.int .i64 (R j : Int))) : R3 base gb wr b o (R 0) (R 1) (R 2) := fun W k _ => by
  have := h W (hB.trans (k.lo.mono hs))
  exact ⟨this 0 (by omega), this 1 (by omega), this 2 (by omega)⟩
/-- The rows of a system, each of three. -/
theorem rows3 {w : World} {a : Option Addr} {B : List (List Nat)} (h3 : ∀ b ∈ B, b.length = 3 ∧ ∀ x ∈ b, x ≤ 40) (hD : DRow w a B) (i : Nat) (hi : i < B.length) : ∃ b bb off bq oq uc, B[i]? = some b ∧ (∀ j, b.getD j 0 ≤ 99) ∧ a = some ⟨bb, off, none⟩ ∧ ∀ W, Below w.heap.size w W → W.cell? ⟨bb, off + i, none⟩ = some (.slice (some ⟨bq, oq, none⟩) 3 uc) ∧ ∀ j, j < 3 → W.cell? ⟨bq, oq + j, none⟩ = some (.int .i64 ((b.getD j 0 : Nat) : Int)) := by
  have hb := List.getElem?_eq_getElem hi
  obtain ⟨g3, g4⟩ := h3 _ (List.getElem_mem hi)
  obtain ⟨bb, off, ua, uc, rfl, hrow⟩ := hD i _ hb
  obtain ⟨r0, rs⟩ := hrow _ (Below.refl _ _)
  obtain ⟨bq, oq, rfl, _⟩ := row3 g3 rs
  refine ⟨_, bb, off, bq, oq, uc, hb, fun j => ?_, rfl, fun W h => ?_⟩
  · by_cases hj : j < B[i].length
    · have := g4 _ (getD_mem' hj); omega
    · have e0 : B[i].getD j 0 = 0 := by rw [List.getD_eq_getElem?_getD, List.getElem?_eq_none (by omega)]; rfl
      rw [e0]; omega
  · obtain ⟨r0, rs⟩ := hrow W h
    obtain ⟨_, _, e, hc⟩ := row3 g3 rs
    cases e
    rw [g3] at r0
    exact ⟨r0, hc⟩
end Go.Proofs.YtdeofjmgjhfkcabDoor
