/- The walk of the document's MakeOf. -/
import Derived.Test.YtdeofjmgjhfkcabDoorA8
import Derived.Test.YtdeofjmgjhfkcabDoorB3
import Derived.Test.YtdeofjmgjhfkcabDoorTMk
namespace Go.Proofs.YtdeofjmgjhfkcabDoor
open Go.RowKit

/-- A new triple behind the others. -/
theorem or_app3 {w w2 : World} {base n : Nat} {v v' : Value} {L : List (List Nat)} {vals : List Value} {x y z : Nat} {a b c : Int} (h1 : w.ownsRow base 29 1 v L.length vals) (h2 : ∀ (i : Nat) (u : Value) (l : List Nat), vals[i]? = some u → L[i]? = some l → ORow w base u l) (hn : L.length = n) (hbs : base ≤ w.heap.size)
    (hown : w2.ownsRow base 29 1 v' (n + 1) (vals ++ [.slice (some ⟨w.heap.size, 0, none⟩) 3 3])) (hgr : ((w.alloc (.cells #[.int .i64 a, .int .i64 b, .int .i64 c] 3)).alloc (.cells #[.slice (some ⟨w.heap.size, 0, none⟩) 3 3] 29)).grownBy w2 v.ownBlock) (ha : a = (x : Int)) (hb : b = (y : Int)) (hc : c = (z : Int)) : OR w2 base v' (L ++ [[x, y, z]]) ∧ Below base w w2 := by
  subst ha hb hc
  have b1 := balloc w (.cells #[.int .i64 (x : Int), .int .i64 (y : Int), .int .i64 (z : Int)] 3)
  have b2 := balloc (w.alloc (.cells #[.int .i64 (x : Int), .int .i64 (y : Int), .int .i64 (z : Int)] 3)) (.cells #[.slice (some ⟨w.heap.size, 0, none⟩) 3 3] 29)
  have hr : ORow (w.alloc (.cells #[.int .i64 (x : Int), .int .i64 (y : Int), .int .i64 (z : Int)] 3)) base (.slice (some ⟨w.heap.size, 0, none⟩) 3 3) [x, y, z] := ⟨rfl, .inr ⟨w.heap.size, 3, _, rfl, hbs, heap_alloc_new w _, Nat.le_refl _, by unfold maxLen; omega, rfl, rfl⟩⟩
  have b12 := Below.next b1 b2
  refine ⟨OR.more (own_keep h1 fun b _ hb => b12.block b hb) (fun i u l e1 e2 => (h2 i u l e1 e2).below b12) (hr.below b2) (by rw [hn]; exact hown) hgr, ?_⟩
  exact (b12.mono hbs).grown hgr (by simp; omega) fun k hk => (h1.lt k hk).1
theorem dI_three {m h x y i : Nat} : ∀ b ∈ dI m h x y i, b.length = 3 := fun b hb => by
  unfold dI at hb
  obtain ⟨_, _, rfl⟩ := List.mem_map.1 hb
  rfl
theorem dX_three {m x : Nat} {f : Nat → Nat → Nat} : ∀ b ∈ dX m f x, b.length = 3 := fun b hb => by
  unfold dX at hb
  obtain ⟨_, _, hb⟩ := List.mem_flatMap.1 hb
  unfold dY at hb
  obtain ⟨_, _, hb⟩ := List.mem_flatMap.1 hb
  exact dI_three b hb
theorem slant_perm (m : Nat) (f : Nat → Nat → Nat) : ((dX m f m).map s3).Perm (slY m f m) := by
  rw [map_dX]
  unfold slY slX
  have e : (fun x => (List.range (m - (x + 1))).flatMap fun j => (dI m (f x (x + 1 + j)) x (x + 1 + j) 3).map s3) = fun x => (List.range (m - (x + 1))).flatMap fun j => (fun x y => slI m f x y 3) x (x + 1 + j) := by
    funext x
    refine congrArg (fun g => (List.range (m - (x + 1))).flatMap g) (funext fun j => ?_)
    unfold dI slI slC
    rw [List.map_map]
    refine List.map_congr_left fun i _ => ?_
    show s3 _ = s3 _
    rw [Nat.mul_comm i m, Nat.mul_comm ((i + 1) % 3) m, Nat.add_comm (m * i) x, Nat.add_comm (m * i), Nat.add_comm (m * ((i + 1) % 3))]
  rw [e]
  exact tri_perm (fun x y => slI m f x y 3) m
def docB (t : Nat) : List (List Nat) := dU (2 * t + 1) (2 * t + 1) ++ dX (2 * t + 1) (boF t (2 * t + 1)) (2 * t + 1)
def docK (t : Nat) : List (List Nat) := dkX t (2 * t) t ++ dX (2 * t) (skF t (2 * t)) (2 * t)
theorem docB_three (t : Nat) : ∀ b ∈ docB t, b.length = 3 := fun b hb => by
  rcases List.mem_append.1 hb with h | h
  · unfold dU at h
    obtain ⟨_, _, rfl⟩ := List.mem_map.1 h
    rfl
  · exact dX_three b h
theorem docK_three (t : Nat) : ∀ b ∈ docK t, b.length = 3 := fun b hb => by
  rcases List.mem_append.1 hb with h | h
  · unfold dkX at h
    obtain ⟨_, _, h⟩ := List.mem_flatMap.1 h
    rcases List.mem_cons.1 h with rfl | h
    · rfl
    · unfold dkI at h
      obtain ⟨_, _, rfl⟩ := List.mem_map.1 h
      rfl
  · exact dX_three b h
theorem s3_up (m x : Nat) : s3 [x, x + m, x + 2 * m] = s3 [0 * m + x, 1 * m + x, 2 * m + x] := by rw [Nat.zero_mul, Nat.one_mul, Nat.zero_add, Nat.add_comm m x, Nat.add_comm (2 * m) x]
theorem docB_perm (t : Nat) : ((docB t).map s3).Perm (boL t) := by
  unfold docB boL
  rw [List.map_append]
  refine List.Perm.append ?_ (slant_perm _ _)
  unfold dU upL
  rw [List.map_map]
  exact List.Perm.of_eq (List.map_congr_left fun x _ => s3_up _ x)
theorem docK_perm (t : Nat) : ((docK t).map s3).Perm (skL t) := by
  unfold docK skL
  rw [List.map_append]
  refine List.Perm.append ?_ (slant_perm _ _)
  unfold dkX skX
  rw [List.map_flatMap, List.flatMap_def, List.flatMap_def]
  refine List.Perm.of_eq (congrArg List.flatten (List.map_congr_left fun x _ => ?_))
  rw [List.map_cons, s3_up]
  refine congrArg _ ?_
  unfold dkI skI skC
  rw [List.map_map]
  refine List.map_congr_left fun i _ => ?_
  show s3 _ = s3 _
  rw [Nat.mul_comm i, Nat.mul_comm ((i + 1) % 3), Nat.add_comm (2 * t * i), Nat.add_comm (2 * t * ((i + 1) % 3))]
theorem Ordd.srtd {L M Z : List (List Nat)} (h : Ordd L Z) (hp : (L.map s3).Perm M) : Srtd M Z := ⟨h.perm.trans hp, h.ord⟩
end Go.Proofs.YtdeofjmgjhfkcabDoor
