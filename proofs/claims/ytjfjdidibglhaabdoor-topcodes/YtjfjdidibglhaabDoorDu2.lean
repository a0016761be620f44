/- ArrayDual, the law. -/
import Derived.Test.YtjfjdidibglhaabDoorYB8
import Derived.Deep.RegionHeld3
import Derived.Test.YtjfjdidibglhaabDoorSpB
import Derived.Deep.AppendLies
import Derived.Test.YtjfjdidibglhaabDoorArV
import Derived.Test.YtjfjdidibglhaabDoorArT
import Derived.Test.YtjfjdidibglhaabDoorA10
/- array.spanned, walked: all of a space, of its basis. -/
/- The document's Span, walked. -/
/- The document's Open, Shut, lead and added, walked. -/
/- The document's RowFault and RowsFault, walked. -/
/- What the program answers of any field, any number and any rows. -/
/- What is asked first: spaceFact. -/
namespace Go.Proofs.YtjfjdidibglhaabDoor.Fd
theorem fault_tot (p k : Int) (l : List Int) : ∃ z, FaultIs p k l z := by
  by_cases h1 : ordZ p k = 0
  · exact ⟨1, .inl ⟨h1, rfl⟩⟩
  by_cases h2 : (l.length : Int) = k
  · by_cases h3 : inL p l
    · by_cases h4 : irrP (monL l) k.toNat p.toNat
      · exact ⟨0, .inr (.inr (.inr (.inr ⟨h1, h2, h3, h4, rfl⟩)))⟩
      · exact ⟨4, .inr (.inr (.inr (.inl ⟨h1, h2, h3, h4, rfl⟩)))⟩
    · exact ⟨1, .inr (.inr (.inl ⟨h1, h2, h3, rfl⟩))⟩
  · exact ⟨2, .inr (.inl ⟨h1, h2, rfl⟩)⟩
end Go.Proofs.YtjfjdidibglhaabDoor.Fd
namespace Go.Proofs.YtjfjdidibglhaabDoor
open Go.RowKit

end Go.Proofs.YtjfjdidibglhaabDoor

namespace Go.Proofs.YtjfjdidibglhaabDoor
open Go.RowKit

/-- A room that is none: open says what is wrong, whatever the rows. -/
structure RmE (p k : Int) (l : List Int) (n z : Int) : Prop where
  ne : z ≠ 0
  is : (Fd.FaultIs p k l z) ∨ (Fd.FaultIs p k l 0 ∧ ¬ (1 ≤ n ∧ n ≤ 6) ∧ z = 1) ∨ (∃ P K N : Nat, p = P ∧ k = K ∧ n = N ∧ Fd.GoodF P K l ∧ 1 ≤ N ∧ N ≤ 6 ∧ 4096 < (P ^ K) ^ N ∧ z = 3)
theorem RmE.op {p k n z : Int} {l : List Int} {v : Value} {w : World} (h : RmE p k l n z) (hT : Fd.Tab w) (hl : Fd.Sl w v l) (hll : l.length ≤ maxLen) (vs : List Value) (rss : List (List (List Int))) (rv : Value) : OpC p k n v vs rss w z rv := by
  rcases h.is with h1 | ⟨h1, h2, rfl⟩ | ⟨P, K, N, rfl, rfl, rfl, hG, h1, h6, hf, rfl⟩
  · exact opc_fault hT hl hll h1 h.ne vs rss rv
  · obtain ⟨P, K, rfl, rfl, hG⟩ := Fd.good_of h1
    exact opc_far ⟨hT, hl, hll, hG⟩ h2 vs rss rv
  · exact opc_full ⟨hT, hl, hll, hG⟩ h1 h6 hf vs rss rv
/-- A room. -/
structure RmO (p k : Int) (l : List Int) (n : Int) (P K N : Nat) : Prop where
  ep : p = P
  ek : k = K
  en : n = N
  good : Fd.GoodF P K l
  h1 : 1 ≤ N
  h6 : N ≤ 6
  hf : (P ^ K) ^ N ≤ 4096
theorem room_cases (p k : Int) (l : List Int) (n : Int) : (∃ z, RmE p k l n z) ∨ ∃ P K N, RmO p k l n P K N := by
  obtain ⟨z, hz⟩ := Fd.fault_tot p k l
  by_cases h0 : z = 0
  · subst h0
    by_cases h1 : 1 ≤ n ∧ n ≤ 6
    · obtain ⟨P, K, rfl, rfl, hG⟩ := Fd.good_of hz
      have hn : n = (n.toNat : Int) := by omega
      by_cases h2 : 4096 < (P ^ K) ^ n.toNat
      · exact .inl ⟨3, by decide, .inr (.inr ⟨P, K, n.toNat, rfl, rfl, hn, hG, by omega, by omega, h2, rfl⟩)⟩
      · exact .inr ⟨P, K, n.toNat, rfl, rfl, hn, hG, by omega, by omega, by omega⟩
    · exact .inl ⟨1, by decide, .inr (.inl ⟨hz, h1, rfl⟩)⟩
  · exact .inl ⟨z, h0, .inl hz⟩
/-- An answer: a basis, or what is wrong. -/
def AnsB (q : Nat) (ad mu : Nat → Nat → Nat) (n : Nat) (V : List Nat → Prop) (z : Int) (e : Ending) (w' : World) : Prop := ∃ a m c, e = .returned (.tuple #[.slice a m c, .int .i64 z]) ∧ m ≤ 6 ∧ (z = 0 → ∃ ls, BasIs q ad mu n V ls ∧ Hid (ls.length = m) ∧ Rw w' (.slice a m c) (toZ ls))
theorem BaR.ans {q : Nat} {ad mu : Nat → Nat → Nat} {n : Nat} {V : List Nat → Prop} {e : Ending} {w' : World} (hn : n ≤ 6) (h : BaR q ad mu n V e w') : AnsB q ad mu n V 0 e w' := by
  obtain ⟨x, ls, rfl, hB, hx⟩ := h
  obtain ⟨a, m, c, rfl, Hm⟩ := rw_formH hx
  exact ⟨a, m, c, rfl, by have := rref_le hB.rref; rw [Hm.out] at this; omega, fun _ => ⟨ls, hB, Hm, hx⟩⟩
theorem ans_err {q : Nat} {ad mu : Nat → Nat → Nat} {n : Nat} {V : List Nat → Prop} {z : Int} {e : Ending} {w' : World} (h0 : z ≠ 0) (h : e = .returned (.tuple #[.slice none 0 0, .int .i64 z])) : AnsB q ad mu n V z e w' := ⟨none, 0, 0, h, by omega, fun h => absurd h h0⟩
/-- Rows that are rows: as numbers. -/
theorem rs_nat {q n : Nat} {rs : List (List Int)} (h : rsE q n rs = 0) : ∃ S, rs = toZ S ∧ Rws q n S ∧ S.length ≤ 12 := by
  unfold rsE at h
  by_cases h1 : 12 < rs.length
  · rw [if_pos h1] at h; omega
  · rw [if_neg h1] at h
    have h2 := rlE_ok h
    have h3 : ∀ r ∈ rs, r = (r.map Int.toNat).map Int.ofNat ∧ Vc q n (r.map Int.toNat) := fun r hr => by
      obtain ⟨s, hs, rfl⟩ := rwE_nat (h2 r hr)
      have e : (s.map Int.ofNat).map Int.toNat = s := by
        rw [List.map_map]
        have : (Int.toNat ∘ Int.ofNat) = id := by funext x; rfl
        rw [this, List.map_id]
      rw [e]
      exact ⟨rfl, hs⟩
    refine ⟨rs.map fun r => r.map Int.toNat, ?_, fun s hs => ?_, by simp; omega⟩
    · unfold toZ
      rw [List.map_map]
      conv => lhs; rw [← List.map_id rs]
      exact List.map_congr_left fun r hr => (h3 r hr).1
    · obtain ⟨r, hr, rfl⟩ := List.mem_map.1 hs
      exact (h3 r hr).2
theorem lsE_one {q n : Nat} (rs : List (List Int)) : lsE q n [rs] = rsE q n rs := by
  unfold lsE
  split
  · rfl
  · rename_i h
    have : rsE q n rs = 0 := Classical.byContradiction fun k => h k
    rw [this]; rfl
section
variable {P K n : Nat} {l : List Int} {v : Value} {w : World}
theorem Basis_ans (hF : Fld P K l v w) (h1 : 1 ≤ n) (h6 : n ≤ 6) (hf : (P ^ K) ^ n ≤ 4096) {u : Value} {rs : List (List Int)} (hu : RwC w u rs) {S : List (List Nat)} (hS : rsE (P ^ K) n rs = 0 → rs = toZ S) :
    Calls Tryd.prog 17 #[.agg #[.int .i64 (P : Int), .int .i64 (K : Int), v], .int .i64 (n : Int), u] w fun e w' => AnsB (P ^ K) (adF P K) (muF P K l) n (Spn (P ^ K) (adF P K) (muF P K l) n S) (rsE (P ^ K) n rs : Int) e w' ∧ Below w.heap.size w w' := by
  have hv : ∃ a m c, v = .slice a m c := by obtain ⟨a, c, e, _⟩ := hF.sl; exact ⟨a, _, c, e⟩
  have hO := opc_rows hF h1 h6 hf [u] [rs] (by simp) (lsE_one rs)
  by_cases h0 : rsE (P ^ K) n rs = 0
  · obtain ⟨S', e, hR, hl⟩ := rs_nat h0
    have eS : S' = S := by
      have : toZ S' = toZ S := by rw [← e]; exact hS h0
      have hi : ∀ (A B : List (List Nat)), toZ A = toZ B → A = B := fun A B h => by
        unfold toZ at h
        refine List.map_inj_right (fun a b hab => ?_) |>.1 h
        exact List.map_inj_right (fun x y hxy => Int.ofNat.inj hxy) |>.1 hab
      exact hi _ _ this
    subst eS
    subst e
    rw [h0] at hO ⊢
    exact (Basis_ok P K n l v u S' w hF hu.rw hR hl h1 h6 hO).mono fun e w' ⟨h, b⟩ => ⟨h.ans h6, b⟩
  · exact (Basis_err P K n _ v u rs _ w hv hu hO (by omega)).mono fun e w' ⟨h, b⟩ => ⟨ans_err (by omega) h, b⟩
end
end Go.Proofs.YtjfjdidibglhaabDoor

/- The document's RoomFault, RowFault and RowsFault, walked. -/
namespace Go.Proofs.YtjfjdidibglhaabDoor.Fd
open Go.RowKit
end Go.Proofs.YtjfjdidibglhaabDoor.Fd
namespace Go.Proofs.YtjfjdidibglhaabDoor
open Go.RowKit

theorem Fld.size {P K : Nat} {l : List Int} {v : Value} {w : World} (hF : Fld P K l v w) {q : Nat} (hq : Hid (P ^ K = q)) (W : World) : Calls Tryd.prog 8 #[.agg #[.int .i64 (P : Int), .int .i64 (K : Int), v]] W fun e w' => e = .returned (.int .i64 (q : Int)) ∧ Below W.heap.size W w' := by
  have h := Fd.size_any P K v W
  rw [hF.good.ord, hq.out] at h
  exact h
end Go.Proofs.YtjfjdidibglhaabDoor

namespace Go.Proofs.YtjfjdidibglhaabDoor
open Go.RowKit

end Go.Proofs.YtjfjdidibglhaabDoor

namespace Go.Proofs.YtjfjdidibglhaabDoor
open Go.RowKit

end Go.Proofs.YtjfjdidibglhaabDoor

/- Rows of truths of one's own, and what the document's Span keeps. -/
namespace Go.Proofs.YtjfjdidibglhaabDoor
open Go.RowKit

/-- A row of truths of one's own, whole. -/
def OwnB (w : World) (g n : Nat) (f : Nat → Bool) : Prop := ∃ cur, w.heap[g]? = some (.cells cur 4 (0, 0)) ∧ cur.size = n ∧ ∀ j, j < n → cur[j]? = some (.bool (f j))
theorem OwnB.lt {w : World} {g n : Nat} {f : Nat → Bool} (h : OwnB w g n f) : g < w.heap.size := by obtain ⟨c, h, _⟩ := h; exact (Array.getElem?_eq_some_iff.1 h).1
theorem OwnB.keep {w w' : World} {g n : Nat} {f : Nat → Bool} (h : OwnB w g n f) (k : w'.heap[g]? = w.heap[g]?) : OwnB w' g n f := by
  obtain ⟨c, h, e⟩ := h
  exact ⟨c, k.trans h, e⟩
theorem OwnB.below {w w' : World} {g n : Nat} {f : Nat → Bool} (h : OwnB w g n f) (b : Below w.heap.size w w') : OwnB w' g n f := h.keep (b.block g h.lt)
theorem OwnB.cell {w : World} {g n : Nat} {f : Nat → Bool} (h : OwnB w g n f) {j : Nat} (hj : j < n) : w.cell? ⟨g, j, none⟩ = some (.bool (f j)) := by
  obtain ⟨c, h, _, e⟩ := h
  rw [cell_of_row w g j _ _ _ h, e j hj]
theorem OwnB.frozen {w : World} {g n : Nat} {f : Nat → Bool} (h : OwnB w g n f) (j : Nat) : w.frozen? ⟨g, j, none⟩ = false := by
  obtain ⟨c, h, _⟩ := h
  exact frozen_of_row w g j _ _ h
theorem OwnB.set {w : World} {g n : Nat} {f f' : Nat → Bool} (h : OwnB w g n f) (i : Nat) (v : Bool) (e : ∀ j, j < n → (if j = i then v else f j) = f' j) : OwnB (w.setCell ⟨g, i, none⟩ (.bool v)) g n f' := by
  obtain ⟨c, h, hs, hc⟩ := h
  refine ⟨_, heap_setCell_same w g i _ _ _ h, by simpa using hs, fun j hj => ?_⟩
  rw [Array.getElem?_setIfInBounds, ← e j hj]
  by_cases e1 : i = j
  · subst e1; rw [if_pos rfl, if_pos (by omega), if_pos rfl]
  · rw [if_neg e1, if_neg (fun h => e1 h.symm), hc j hj]
/-- A row of truths that is read. -/
def RdB (w : World) (v : Value) (n : Nat) (f : Nat → Bool) : Prop := ∃ b off cap, v = .slice (some ⟨b, off, none⟩) n cap ∧ ∀ j, j < n → w.cell? ⟨b, off + j, none⟩ = some (.bool (f j))
theorem RdB.below {w w' : World} {v : Value} {n : Nat} {f : Nat → Bool} (h : RdB w v n f) (k : Below w.heap.size w w') : RdB w' v n f := by
  obtain ⟨b, off, cap, e, h⟩ := h
  exact ⟨b, off, cap, e, fun j hj => (k.cell (p := ⟨b, off + j, none⟩) (block_lt_of_cell (h j hj))).trans (h j hj)⟩
theorem OwnB.rd {w : World} {g n : Nat} {f : Nat → Bool} (h : OwnB w g n f) : RdB w (.slice (some ⟨g, 0, none⟩) n n) n f := ⟨g, 0, n, rfl, fun j hj => by rw [Nat.zero_add]; exact h.cell hj⟩

section
variable {q n : Nat} {ad mu : Nat → Nat → Nat} {ng : Nat → Nat}
/-- Numbers of lists that are in T, none twice, and marked. -/
structure SpK (q n : Nat) (T : List Nat → Prop) (L : List Nat) (V : Nat → Bool) : Prop where
  lt : ∀ c ∈ L, c < q ^ n
  is : ∀ c ∈ L, T (opn q n c)
  nd : L.Nodup
  mrk : ∀ c, c < q ^ n → (V c = true ↔ c ∈ L)
theorem SpK.mono {T T' : List Nat → Prop} {L : List Nat} {V : Nat → Bool} (h : SpK q n T L V) (k : ∀ v, T v → T' v) : SpK q n T' L V := ⟨h.lt, fun c hc => k _ (h.is c hc), h.nd, h.mrk⟩
theorem SpK.add {T : List Nat → Prop} {L : List Nat} {V : Nat → Bool} (h : SpK q n T L V) {c : Nat} (hc : c < q ^ n) (hT : T (opn q n c)) (hV : V c = false) : SpK q n T (L ++ [c]) (fun i => if i = c then true else V i) := by
  have hn : c ∉ L := fun k => by rw [(h.mrk c hc).2 k] at hV; cases hV
  refine ⟨fun a ha => ?_, fun a ha => ?_, ?_, fun a ha => ?_⟩
  · rcases List.mem_append.1 ha with e | e
    · exact h.lt a e
    · rw [List.mem_singleton.1 e]; exact hc
  · rcases List.mem_append.1 ha with e | e
    · exact h.is a e
    · rw [List.mem_singleton.1 e]; exact hT
  · refine List.nodup_append.2 ⟨h.nd, by simp, fun a ha b hb => ?_⟩
    rw [List.mem_singleton.1 hb]
    intro e
    rw [e] at ha
    exact hn ha
  · show (if a = c then true else V a) = true ↔ _
    by_cases e : a = c
    · rw [if_pos e, e]; simp
    · rw [if_neg e, h.mrk a ha]; simp [e]
theorem SpK.len {T : List Nat → Prop} {L : List Nat} {V : Nat → Bool} (h : SpK q n T L V) : L.length ≤ q ^ n := by
  have := h.nd.length_le_of_subset (l₂ := List.range (q ^ n)) fun c hc => List.mem_range.2 (h.lt c hc)
  rwa [List.length_range] at this
/-- The next number: that of the row a and x times r. -/
def nxC (q n : Nat) (ad mu : Nat → Nat → Nat) (r : List Nat) (x a : Nat) : Nat := shu q (adV ad n (opn q n a) (smV mu n x r))
theorem nxC_lt (h : FqR q ad mu ng) {r : List Nat} (hr : Vc q n r) {x : Nat} (hx : x < q) (a : Nat) : nxC q n ad mu r x a < q ^ n := shu_lt h.pos n _ (adV_vc h (opn_vc h.pos n a) (smV_vc h hx hr))
theorem nxC_opn (h : FqR q ad mu ng) {r : List Nat} (hr : Vc q n r) {x : Nat} (hx : x < q) (a : Nat) : opn q n (nxC q n ad mu r x a) = adV ad n (opn q n a) (smV mu n x r) := opn_shu h.pos n _ (adV_vc h (opn_vc h.pos n a) (smV_vc h hx hr))
theorem nxC_in (h : FqR q ad mu ng) {R : List (List Nat)} {r : List Nat} (hR : Rws q n R) (hr : Vc q n r) {x a : Nat} (hx : x < q) (ha : Spn q ad mu n R (opn q n a)) : Spn q ad mu n (R ++ [r]) (opn q n (nxC q n ad mu r x a)) := by
  rw [nxC_opn h hr hx, spn_snoc h hR hr]
  exact ⟨_, x, ha, hx, rfl⟩
theorem opn_null (q n : Nat) : opn q n 0 = zV n := by
  have h : ∀ n, opn q n 0 = List.replicate n 0 := by
    intro n
    induction n with
    | zero => rfl
    | succ n ih => rw [opn, Nat.zero_div, Nat.zero_mod, ih, List.replicate_succ']
  rw [h]
  refine List.ext_getElem? fun i => ?_
  simp [zV, ofF, List.getElem?_replicate]
  by_cases e : i < n
  · simp [e]
  · simp [e]
theorem full_next (h : FqR q ad mu ng) {R : List (List Nat)} {r : List Nat} (hR : Rws q n R) (hr : Vc q n r) {L0 L : List Nat} (hf : ∀ c, c < q ^ n → Spn q ad mu n R (opn q n c) → c ∈ L0) (hd : ∀ x, x < q → ∀ a ∈ L0, nxC q n ad mu r x a ∈ L) {c : Nat} (hc : c < q ^ n)
    (k : Spn q ad mu n (R ++ [r]) (opn q n c)) : c ∈ L := by
  obtain ⟨u, x, hu, hx, e⟩ := (spn_snoc h hR hr _).1 k
  have huv := hu.vc h hR
  have ha := hf (shu q u) (shu_lt h.pos n u huv) (by rw [opn_shu h.pos n u huv]; exact hu)
  have := hd x hx _ ha
  unfold nxC at this
  rw [opn_shu h.pos n u huv, ← e, shu_opn n c hc] at this
  exact this
/-- Span's state: ahead of a row; amid one. -/
def OutS (q n : Nat) (ad mu : Nat → Nat → Nat) (S : List (List Nat)) (i : Nat) (L : List Nat) (V : Nat → Bool) : Prop := SpK q n (Spn q ad mu n (S.take i)) L V ∧ ∀ c, c < q ^ n → Spn q ad mu n (S.take i) (opn q n c) → c ∈ L
structure MidS (q n : Nat) (ad mu : Nat → Nat → Nat) (S : List (List Nat)) (i : Nat) (r : List Nat) (L0 : List Nat) (x j : Nat) (L : List Nat) (V : Nat → Bool) : Prop where
  k : SpK q n (Spn q ad mu n (S.take (i + 1))) L V
  pre : ∃ M, L = L0 ++ M
  old : ∀ a ∈ L0, a < q ^ n ∧ Spn q ad mu n (S.take i) (opn q n a)
  full : ∀ c, c < q ^ n → Spn q ad mu n (S.take i) (opn q n c) → c ∈ L0
  don : ∀ y, y < x → ∀ a ∈ L0, nxC q n ad mu r y a ∈ L
  cur : ∀ h, h < j → nxC q n ad mu r x (L0.getD h 0) ∈ L
theorem take_snoc {S : List (List Nat)} {i : Nat} {r : List Nat} (hr : S[i]? = some r) : S.take (i + 1) = S.take i ++ [r] := by rw [List.take_add_one, hr, Option.toList_some]
theorem rws_take {S : List (List Nat)} (h : Rws q n S) (i : Nat) : Rws q n (S.take i) := fun r hr => h r (List.mem_of_mem_take hr)
theorem MidS.row {S : List (List Nat)} {i : Nat} {r L0 : List Nat} {x j : Nat} {L : List Nat} {V : Nat → Bool} (k : MidS q n ad mu S i r L0 x j L V) (hj : j = L0.length) : MidS q n ad mu S i r L0 (x + 1) 0 L V where
  k := k.k
  pre := k.pre
  old := k.old
  full := k.full
  don := fun y hy a ha => by
    by_cases e : y = x
    · subst e
      obtain ⟨h, hh, rfl⟩ := List.getElem_of_mem ha
      have := k.cur h (by omega)
      rwa [List.getD_eq_getElem?_getD, List.getElem?_eq_getElem hh, Option.getD_some] at this
    · exact k.don y (by omega) a ha
  cur := fun _ h => by omega
theorem MidS.done (h : FqR q ad mu ng) {S : List (List Nat)} (hS : Rws q n S) {i : Nat} {r L0 : List Nat} {j : Nat} {L : List Nat} {V : Nat → Bool} (k : MidS q n ad mu S i r L0 q j L V) (hr : S[i]? = some r) (hv : Vc q n r) : OutS q n ad mu S (i + 1) L V :=
  ⟨k.k, fun c hc hs => by
    rw [take_snoc hr] at hs
    exact full_next h (rws_take hS i) hv k.full k.don hc hs⟩
theorem MidS.at {S : List (List Nat)} {i : Nat} {r L0 : List Nat} {x j : Nat} {L : List Nat} {V : Nat → Bool} (k : MidS q n ad mu S i r L0 x j L V) {h : Nat} (hh : h < L0.length) : L.getD h 0 = L0.getD h 0 ∧ L0.getD h 0 < q ^ n ∧ h < L.length := by
  obtain ⟨M, e⟩ := k.pre
  refine ⟨by rw [e]; simp [List.getD_eq_getElem?_getD, List.getElem?_append_left hh], ?_, by rw [e, List.length_append]; omega⟩
  rw [List.getD_eq_getElem?_getD, List.getElem?_eq_getElem hh, Option.getD_some]
  exact (k.old _ (List.getElem_mem hh)).1
theorem MidS.no (h : FqR q ad mu ng) {S : List (List Nat)} (hS : Rws q n S) {i : Nat} {r L0 : List Nat} {x j : Nat} {L : List Nat} {V : Nat → Bool} (k : MidS q n ad mu S i r L0 x j L V) (hr : S[i]? = some r) (hv : Vc q n r) (hx : x < q) (hj : j < L0.length) {z : Nat} (hz : nxC q n ad mu r x (L0.getD j 0) = z) (hV : V z = false) :
    MidS q n ad mu S i r L0 x (j + 1) (L ++ [z]) (fun i => if i = z then true else V i) where
  k := by
    refine k.k.add (by rw [← hz]; exact nxC_lt h hv hx _) ?_ hV
    rw [take_snoc hr, ← hz]
    refine nxC_in h (rws_take hS i) hv hx ?_
    rw [List.getD_eq_getElem?_getD, List.getElem?_eq_getElem hj, Option.getD_some]
    exact (k.old _ (List.getElem_mem hj)).2
  pre := by
    obtain ⟨M, e⟩ := k.pre
    exact ⟨M ++ [z], by rw [e, List.append_assoc]⟩
  old := k.old
  full := k.full
  don := fun y hy a ha => List.mem_append.2 (.inl (k.don y hy a ha))
  cur := fun h hh => by
    by_cases e : h = j
    · subst e; rw [hz]; simp
    · exact List.mem_append.2 (.inl (k.cur h (by omega)))
end
theorem addr_add0 (g j : Nat) : (⟨g, 0, none⟩ : Addr).add j = ⟨g, j, none⟩ := by unfold Addr.add; split <;> simp_all
/-- Span's memory: the marks and the list. -/
structure SpW (w0 wr : World) (G A lg lm lc : Nat) (L : List Nat) (V : Nat → Bool) : Prop where
  own : OwnB wr G A V
  row : wr.ownsRow (G + 1) 3 1 (.slice (some ⟨lg, 0, none⟩) lm lc) lm ((L.map Int.ofNat).map (Value.int .i64))
  b : Below w0.heap.size w0 wr
  g0 : w0.heap.size ≤ G
theorem SpW.lt {w0 wr : World} {G A lg lm lc : Nat} {L : List Nat} {V : Nat → Bool} (h : SpW w0 wr G A lg lm lc L V) : G + 1 ≤ lg ∧ lg < wr.heap.size := h.row.lt lg rfl
theorem SpW.len {w0 wr : World} {G A lg lm lc : Nat} {L : List Nat} {V : Nat → Bool} (h : SpW w0 wr G A lg lm lc L V) : L.length = lm := by have := h.row.1; simpa using this
theorem SpW.cell {w0 wr : World} {G A lg lm lc : Nat} {L : List Nat} {V : Nat → Bool} (h : SpW w0 wr G A lg lm lc L V) {j : Nat} (hj : j < lm) : wr.cell? ⟨lg, j, none⟩ = some (.int .i64 (L.getD j 0 : Int)) := by
  have hl := h.len
  have := h.row.cells (g := lg) rfl j (.int .i64 (L.getD j 0 : Int)) (by simp [List.getD_eq_getElem?_getD, show j < L.length by omega])
  rw [addr_add0] at this
  exact this
theorem SpW.below {w0 wr W : World} {G A lg lm lc : Nat} {L : List Nat} {V : Nat → Bool} (h : SpW w0 wr G A lg lm lc L V) (b : Below wr.heap.size wr W) : SpW w0 W G A lg lm lc L V :=
  ⟨h.own.below b, own_keep h.row fun k _ hk => b.block k hk, Below.next h.b b, h.g0⟩
theorem SpW.grow {w0 wr w4 : World} {G A lg lm lc lg' lm' lc' : Nat} {L : List Nat} {V : Nat → Bool} {z : Nat} (h : SpW w0 wr G A lg lm lc L V) (hg : (wr.alloc (.cells #[.int .i64 (z : Int)] 3)).grownBy w4 (some lg))
    (ho : w4.ownsRow (G + 1) 3 1 (.slice (some ⟨lg', 0, none⟩) lm' lc') lm' (((L.map Int.ofNat).map (Value.int .i64)) ++ [.int .i64 (z : Int)])) : SpW w0 w4 G A lg' lm' lc' (L ++ [z]) V := by
  have hl := h.lt
  have hG := h.own.lt
  have hb0 := h.b.size
  refine ⟨?_, by simpa using ho, (h.b.alloc hb0 _).grown hg (by simp; omega) (fun k e => by cases e; have := h.g0; omega), h.g0⟩
  refine (h.own.below (balloc wr _)).keep (hg.block G (by simp; omega) ?_)
  intro e
  have : G = lg := by simpa using e
  omega
/-- A row that is read while others grow. -/
def VR (w : World) (vg n : Nat) (f : Nat → Nat) : Prop := vg < w.heap.size ∧ ∀ k, k < n → w.cell? ⟨vg, k, none⟩ = some (.int .i64 (f k : Int))
theorem VR.keep {w w' : World} {vg n : Nat} {f : Nat → Nat} (h : VR w vg n f) (hs : w.heap.size ≤ w'.heap.size) (k : w'.heap[vg]? = w.heap[vg]?) : VR w' vg n f := ⟨Nat.lt_of_lt_of_le h.1 hs, fun j hj => (World.cell?_of_block (a := ⟨vg, j, none⟩) k).trans (h.2 j hj)⟩
theorem VR.below {w w' : World} {vg n : Nat} {f : Nat → Nat} (h : VR w vg n f) (b : Below w.heap.size w w') : VR w' vg n f := h.keep b.size (b.block vg h.1)
theorem VR.sl {w : World} {vg n : Nat} {f : Nat → Nat} (h : VR w vg n f) (cap : Nat) : Sl w (.slice (some ⟨vg, 0, none⟩) n cap) ((ofF n f).map Int.ofNat) := by
  refine ⟨some ⟨vg, 0, none⟩, cap, by simp [ofF], fun j hj => ⟨vg, 0, rfl, ?_⟩⟩
  have hj' : j < n := by simpa [ofF] using hj
  rw [Nat.zero_add, h.2 j hj']
  simp [ofF, hj']
theorem VR.of {w : World} {base n vg cap : Nat} {f : Nat → Nat} (h : w.ownsRow base 3 1 (.slice (some ⟨vg, 0, none⟩) n cap) n (((ofF n f).map Int.ofNat).map (Value.int .i64))) : VR w vg n f := by
  refine ⟨(h.lt vg rfl).2, fun k hk => ?_⟩
  have := h.cells (g := vg) rfl k (.int .i64 (f k : Int)) (by simp [ofF, hk])
  rw [addr_add0] at this
  exact this
end Go.Proofs.YtjfjdidibglhaabDoor

namespace Go.Proofs.YtjfjdidibglhaabDoor
open Go.RowKit

end Go.Proofs.YtjfjdidibglhaabDoor

/- array.added, walked. -/
namespace Go.Proofs.YtjfjdidibglhaabDoor
open Go.RowKit

set_option maxRecDepth 100000 in
set_option maxHeartbeats 8000000 in
theorem addR_any (P K n x : Nat) (l : List Int) (r s : List Nat) (v u y : Value) (w : World) (hF : Fld P K l v w) (hu : Sl w u (r.map Int.ofNat)) (hr : Vc (P ^ K) n r) (hy : Sl w y (s.map Int.ofNat)) (hs : Vc (P ^ K) n s) (hx : x < P ^ K) (h1 : 1 ≤ n) (hn : n ≤ 6) :
    Calls Tryd.prog 41 #[.agg #[.int .i64 (P : Int), .int .i64 (K : Int), v], u, .int .i64 (x : Int), y] w fun e w' => ∃ g, e = .returned (.slice (some ⟨g, 0, none⟩) n n) ∧ w.heap.size ≤ g ∧ OwnN w' g n (fun i => adF P K (r.getD i 0) (muF P K l x (s.getD i 0))) ∧ Below w.heap.size w w' := by
  have hfq := hF.fqr
  have hbx := balloc w (.cells #[.int .i64 (P : Int), .int .i64 (K : Int), v] 24)
  have HX := fl_box (P : Int) (K : Int) v w
  have HMul : Hid (∀ W, Below w.heap.size w W → ∀ b, b < P ^ K → ∀ s, Hid (muF P K l x b = s) → Calls Tryd.prog 32 #[.agg #[.int .i64 (P : Int), .int .i64 (K : Int), v], .int .i64 (x : Int), .int .i64 (b : Int)] W fun e w' => e = .returned (.tuple #[.int .i64 (s : Int), .int .i64 0]) ∧ Below W.heap.size W w') := fun W b y hy s hs => by
    have h := hF.below b
    exact Fd.MulG P K x y l v W h.tab h.sl h.len h.good hx hy s hs.out.symm
  have HAdd : Hid (∀ W, Below w.heap.size w W → ∀ a b, a < P ^ K → b < P ^ K → ∀ s, Hid (adF P K a b = s) → Calls Tryd.prog 72 #[.agg #[.int .i64 (P : Int), .int .i64 (K : Int), v], .int .i64 (a : Int), .int .i64 (b : Int)] W fun e w' => e = .returned (.tuple #[.int .i64 (s : Int), .int .i64 0]) ∧ Below W.heap.size W w') := fun W b x y hx hy s hs => by
    have h := hF.below b
    exact Fd.AddG P K x y l v W h.tab h.sl h.len h.good hx hy s hs.out.symm
  have HA1 : Hid (∀ i, r.getD i 0 < P ^ K) := fun i => hr.at hfq.pos i
  have HA2 : Hid (∀ i, s.getD i 0 < P ^ K) := fun i => hs.at hfq.pos i
  have HML : Hid (∀ b, b < P ^ K → muF P K l x b < P ^ K) := fun b hb => hfq.mu_lt _ _ hx hb
  obtain ⟨ad, Had⟩ : ∃ ad, Hid (adF P K = ad) := ⟨_, rfl⟩
  obtain ⟨mu, Hmu⟩ : ∃ mu, Hid (muF P K l = mu) := ⟨_, rfl⟩
  obtain ⟨q, Hq⟩ : ∃ q, Hid (P ^ K = q) := ⟨_, rfl⟩
  rw [Hq.out] at HMul HAdd HA1 HA2 HML hr hs
  rw [Had.out] at HAdd
  rw [Hmu.out] at HMul HML
  rw [Had.out, Hmu.out]
  obtain ⟨fa, fn, fc, rfl⟩ : ∃ fa fn fc, v = .slice fa fn fc := by obtain ⟨a, c, e, _⟩ := hF.sl; exact ⟨a, _, c, e⟩
  have hl : (r.map Int.ofNat).length = n := by rw [List.length_map, hr.len]
  obtain ⟨ub, uo, uc, rfl, hub, huc⟩ := hu.form hl (by omega)
  have hl2 : (s.map Int.ofNat).length = n := by rw [List.length_map, hs.len]
  obtain ⟨yb, yo, yc, rfl, hyb, hyc⟩ := hy.form hl2 (by omega)
  have HU : Hid (∀ W, Below w.heap.size w W → ∀ j, j < n → W.cell? ⟨ub, uo + j, none⟩ = some (.int .i64 ((r.getD j 0 : Nat) : Int))) := fun W bW j hj => by
    rw [(bW.cell (p := ⟨ub, uo + j, none⟩) hub), huc j hj]
    simp [List.getD_eq_getElem?_getD, show j < r.length by rw [hr.len]; exact hj]
  have HY : Hid (∀ W, Below w.heap.size w W → ∀ j, j < n → W.cell? ⟨yb, yo + j, none⟩ = some (.int .i64 ((s.getD j 0 : Nat) : Int))) := fun W bW j hj => by
    rw [(bW.cell (p := ⟨yb, yo + j, none⟩) hyb), hyc j hj]
    simp [List.getD_eq_getElem?_getD, show j < s.length by rw [hs.len]; exact hj]
  have hmk := run_makeN n (by omega)
  obtain ⟨w0, Hw0⟩ : ∃ w0, Hid (w.alloc (.cells #[.int .i64 (P : Int), .int .i64 (K : Int), .slice fa fn fc] 24) = w0) := ⟨_, rfl⟩
  have HX2 : Hid (∀ W, Below w0.heap.size w0 W → (W.cell? ⟨w.heap.size, 0, none⟩ = some (.int .i64 (P : Int)) ∧ W.cell? ⟨w.heap.size, 1, none⟩ = some (.int .i64 (K : Int)) ∧ W.cell? ⟨w.heap.size, 2, none⟩ = some (.slice fa fn fc))) := by rw [← Hw0.out]; exact HX
  have HB0 : Hid (Below w.heap.size w w0) := by rw [← Hw0.out]; exact hbx
  have ho := own_new w0 n
  have b1 := balloc w0 (.cells (madeCells #[.int .i64 0] n) 3)
  have hg0 : w.heap.size ≤ w0.heap.size := HB0.out.size
  have hgx : w0.heap.size = w.heap.size + 1 := by rw [← Hw0.out]; simp
  obtain ⟨w1, Hw1⟩ : ∃ w1, Hid (w0.alloc (.cells (madeCells #[.int .i64 0] n) 3) = w1) := ⟨_, rfl⟩
  obtain ⟨g, Hg⟩ : ∃ g, Hid (w0.heap.size = g) := ⟨_, rfl⟩
  have HG : Hid (w.heap.size ≤ g ∧ w0.heap.size ≤ g) := ⟨by rw [← Hg.out]; exact hg0, by rw [← Hg.out]; exact Nat.le_refl _⟩
  have HM1 : Hid ((w.alloc (.cells #[.int .i64 (P : Int), .int .i64 (K : Int), .slice fa fn fc] 24)).alloc (.cells (madeCells #[.int .i64 0] n) 3) = w1 ∧ (w.alloc (.cells #[.int .i64 (P : Int), .int .i64 (K : Int), .slice fa fn fc] 24)).heap.size = g) := by rw [Hw0.out, Hw1.out, Hg.out]; exact ⟨rfl, rfl⟩
  rw [Hw1.out, Hg.out] at ho
  rw [Hw1.out] at b1
  clear hF HX hfq huc hu hbx hyc hy hgx hg0
  go_enter Tryd.func41, Tryd.ntmps41
  go_wp2_with fail
  rw [HM1.out.1]
  rw [show w.heap.size + 1 = g by rw [← HM1.out.2]; simp]
  go_loopw [19] (fun iv wr => ∃ i : Nat, iv = .int .i64 (i : Int) ∧ i ≤ n ∧ OwnN wr g n (fun j => if j < i then ad (r.getD j 0) (mu x (s.getD j 0)) else 0) ∧ Below w0.heap.size w0 wr) (fun iv _ => (n - intOf iv).toNat)
  case atStart => exact ⟨0, rfl, by omega, ho, b1⟩
  case round =>
    clear ho b1 hmk
    obtain ⟨i, rfl, hi, hm, hB⟩ := hrel
    have hBB := Below.next HB0.out hB
    by_cases hlt : i < n
    · have hii : (i : Int) < (n : Int) := by omega
      have hdi : decide ((i : Int) < (n : Int)) = true := by simp; omega
      have k1 := hm.cell hlt
      have k2 := HU.out wr hBB i hlt
      have k3 := HY.out wr hBB i hlt
      have l1 := HA1.out i
      have l2 := HA2.out i
      have hset := fun W (b : Below wr.heap.size wr W) => (hm.below b).set (f' := fun j => if j < i + 1 then ad (r.getD j 0) (mu x (s.getD j 0)) else 0) i (ad (r.getD i 0) (mu x (s.getD i 0))) (fun j hj => by
        show (if j = i then ad (r.getD i 0) (mu x (s.getD i 0)) else if j < i then ad (r.getD j 0) (mu x (s.getD j 0)) else 0) = if j < i + 1 then ad (r.getD j 0) (mu x (s.getD j 0)) else 0
        by_cases e : j = i
        · rw [if_pos e, if_pos (by omega), e]
        · rw [if_neg e]
          by_cases h : j < i
          · rw [if_pos h, if_pos (by omega)]
          · rw [if_neg h, if_neg (by omega)])
      obtain ⟨c, Hc⟩ : ∃ c, Hid (r.getD i 0 = c) := ⟨_, rfl⟩
      obtain ⟨d, Hd⟩ : ∃ d, Hid (s.getD i 0 = d) := ⟨_, rfl⟩
      rw [Hc.out] at k2 l1 hset
      rw [Hd.out] at k3 l2 hset
      have l3 := HML.out d l2
      obtain ⟨m, Hm⟩ : ∃ m, Hid (mu x d = m) := ⟨_, rfl⟩
      rw [Hm.out] at hset l3
      obtain ⟨t, Ht⟩ : ∃ t, Hid (ad c m = t) := ⟨_, rfl⟩
      rw [Ht.out] at hset
      have CM := fun W (hW : Below wr.heap.size wr W) => HMul.out W (Below.next hBB hW) d l2 m Hm
      have CA := fun W (hW : Below wr.heap.size wr W) => HAdd.out W (Below.next hBB hW) c m l1 l3 t Ht
      have hS : Hid (∀ W, Below wr.heap.size wr W → (W.cell? ⟨w.heap.size, 0, none⟩ = some (.int .i64 (P : Int)) ∧ W.cell? ⟨w.heap.size, 1, none⟩ = some (.int .i64 (K : Int)) ∧ W.cell? ⟨w.heap.size, 2, none⟩ = some (.slice fa fn fc) ∧ W.cell? ⟨yb, yo + i, none⟩ = some (.int .i64 (d : Int)))) := fun W hW => by
        obtain ⟨y0, y1, y2⟩ := HX2.out W (Below.next hB hW)
        have h := HY.out W (Below.next hBB hW) i hlt
        rw [Hd.out] at h
        exact ⟨y0, y1, y2, h⟩
      have HNext : Hid (∀ W, Below wr.heap.size wr W → (W.cell? ⟨g, i, none⟩).isSome = true ∧ W.frozen? ⟨g, i, none⟩ = false ∧ OwnN (W.setCell ⟨g, i, none⟩ (.int .i64 (t : Int))) g n (fun j => if j < i + 1 then ad (r.getD j 0) (mu x (s.getD j 0)) else 0) ∧ Below w0.heap.size w0 (W.setCell ⟨g, i, none⟩ (.int .i64 (t : Int)))) := fun W b =>
        ⟨by rw [(b.cell (World.block_lt_of_cell? _ _ k1)).trans k1]; rfl, (hm.below b).frozen i, hset W b, (Below.next hB b).setCell (p := ⟨g, i, none⟩) HG.out.2 _⟩
      have p1 : Below wr.heap.size wr wr := Below.refl _ _
      clear hm hset k1 k3 hB hBB
      go_wp2_with fail
      refine wp_region_noPanic ?_
      refine wp_region_held_drew (S := fun W => W.cell? ⟨w.heap.size, 0, none⟩ = some (.int .i64 (P : Int)) ∧ W.cell? ⟨w.heap.size, 1, none⟩ = some (.int .i64 (K : Int)) ∧ W.cell? ⟨w.heap.size, 2, none⟩ = some (.slice fa fn fc) ∧ W.cell? ⟨yb, yo + i, none⟩ = some (.int .i64 (d : Int))) (by kernel_rfl) (hS.out _ p1.drew) (fun hSx => ?_)
      refine wpAnyH_take (i := 0) (v := .agg #[.int .i64 (P : Int), .int .i64 (K : Int), .slice fa fn fc]) rfl (by kernel_rfl) (by kernel_rfl) (by kernel_rfl) (fun _ _ _ h => h) (Or.inl ⟨by rfl, fun w' hSw => by (try dsimp only at hSw); obtain ⟨hs0, hs1, hs2, hs3⟩ := hSw; go_simp⟩) hSx ?_
      try simp only [Act.put, List.setIfInBounds_toArray]
      refine wpAnyH_take (i := 1) (v := .int .i64 (x : Int)) rfl (by kernel_rfl) (by kernel_rfl) (by kernel_rfl) (fun _ _ _ h => h) (Or.inl ⟨by rfl, fun w' hSw => by (try dsimp only at hSw); obtain ⟨hs0, hs1, hs2, hs3⟩ := hSw; go_simp⟩) hSx ?_
      try simp only [Act.put]
      refine wpAnyH_take (i := 2) (v := .slice (some ⟨yb, yo, none⟩) n yc) rfl (by kernel_rfl) (by kernel_rfl) (by kernel_rfl) (fun _ _ _ h => h) (Or.inl ⟨by rfl, fun w' hSw => by (try dsimp only at hSw); obtain ⟨hs0, hs1, hs2, hs3⟩ := hSw; go_simp⟩) hSx ?_
      try simp only [Act.put]
      refine wpAnyH_take (i := 3) (v := .int .i64 (i : Int)) rfl (by kernel_rfl) (by kernel_rfl) (by kernel_rfl) (fun _ _ _ h => h) (Or.inl ⟨by rfl, fun w' hSw => by (try dsimp only at hSw); obtain ⟨hs0, hs1, hs2, hs3⟩ := hSw; go_simp⟩) hSx ?_
      try simp only [Act.put]
      refine wpAnyH_take (i := 4) (v := .pointer (some ⟨yb, yo + i, none⟩)) rfl (by kernel_rfl) (by kernel_rfl) (by kernel_rfl) (fun _ _ _ h => h) (Or.inl ⟨by rfl, fun w' hSw => by (try dsimp only at hSw); obtain ⟨hs0, hs1, hs2, hs3⟩ := hSw; go_simp⟩) hSx ?_
      try simp only [Act.put]
      refine wpAnyH_take (i := 5) (v := .int .i64 (d : Int)) rfl (by kernel_rfl) (by kernel_rfl) (by kernel_rfl) (fun _ _ _ h => h) (Or.inl ⟨by rfl, fun w' hSw => by (try dsimp only at hSw); obtain ⟨hs0, hs1, hs2, hs3⟩ := hSw; go_simp⟩) hSx ?_
      try simp only [Act.put]
      refine wpAnyH_ready (rs := [6]) (by kernel_rfl) (by simp) ?_
      refine (AllReadyH.cons rfl (fun J hJ => ?_) AllReadyH.nil)
      go_simp
      refine (CM _ p1.drew).mono ?_
      rintro e w3 ⟨rfl, bv1⟩
      have p2 : Below wr.heap.size wr w3 := Below.next p1.drew bv1
      go_wp2_with fail
      refine hJ.out _ _ (hS.out _ p2) (fun hSx => ?_)
      clear hJ J
      try simp only [Act.put, List.setIfInBounds_toArray, List.set_cons_zero, List.set_cons_succ]
      refine wpAnyH_take (i := 7) (v := .tuple #[.int .i64 (m : Int), .int .i64 0]) rfl (by kernel_rfl) (by kernel_rfl) (by kernel_rfl) (fun _ _ _ h => h) (Or.inl ⟨by rfl, fun w' hSw => by (try dsimp only at hSw); obtain ⟨hs0, hs1, hs2, hs3⟩ := hSw; go_simp⟩) hSx ?_
      try simp only [Act.put, List.setIfInBounds_toArray]
      refine wpAnyH_take (i := 8) (v := .int .i64 (m : Int)) rfl (by kernel_rfl) (by kernel_rfl) (by kernel_rfl) (fun _ _ _ h => h) (Or.inl ⟨by rfl, fun w' hSw => by (try dsimp only at hSw); obtain ⟨hs0, hs1, hs2, hs3⟩ := hSw; go_simp⟩) hSx ?_
      try simp only [Act.put]
      refine wpAnyH_take (i := 9) (v := .int .i64 0) rfl (by kernel_rfl) (by kernel_rfl) (by kernel_rfl) (fun _ _ _ h => h) (Or.inl ⟨by rfl, fun w' hSw => by (try dsimp only at hSw); obtain ⟨hs0, hs1, hs2, hs3⟩ := hSw; go_simp⟩) hSx ?_
      try simp only [Act.put]
      refine wpAnyH_take (i := 10) (v := .int .i64 (m : Int)) rfl (by kernel_rfl) (by kernel_rfl) (by kernel_rfl) (fun _ _ _ h => h) (Or.inl ⟨by rfl, fun w' hSw => by (try dsimp only at hSw); obtain ⟨hs0, hs1, hs2, hs3⟩ := hSw; go_simp⟩) hSx ?_
      try simp only [Act.put]
      refine wpAnyH_take (i := 11) (v := .int .i64 0) rfl (by kernel_rfl) (by kernel_rfl) (by kernel_rfl) (fun _ _ _ h => h) (Or.inl ⟨by rfl, fun w' hSw => by (try dsimp only at hSw); obtain ⟨hs0, hs1, hs2, hs3⟩ := hSw; go_simp⟩) hSx ?_
      try simp only [Act.put]
      refine wpAnyH_done (by kernel_rfl) ?_ _
      refine NoPanic.normal ?_
      obtain ⟨y0, y1, y2, _⟩ := hS.out _ p2
      have CA2 := CA _ p2
      clear hSx hS CA CM
      go_wp2_with (go_at_call 72; refine CA2.mono ?_; rintro e w4 ⟨rfl, b4⟩; clear CA2; obtain ⟨n1, n2, n3, n4⟩ := HNext.out _ (Below.next p2 b4); obtain ⟨n0, n1⟩ := Option.isSome_iff_exists.1 n1)
      go_roundw
      case rel => exact ⟨i + 1, by go_num, by omega, n3, n4⟩
      case measure => simp [intOf]; omega
    · have hdi : decide ((i : Int) < (n : Int)) = false := by simp; omega
      obtain rfl : n = i := by omega
      have HF : Hid (OwnN wr g n (fun j => ad (r.getD j 0) (mu x (s.getD j 0)))) := by
        obtain ⟨cur, h1, h2, h3⟩ := hm
        exact ⟨cur, h1, h2, fun i hi => (h3 i hi).trans (by simp only [if_pos hi])⟩
      clear hm
      go_wp2
      go_ret
      exact ⟨g, rfl, HG.out.1, HF.out, hBB⟩
end Go.Proofs.YtjfjdidibglhaabDoor

namespace Go.Proofs.YtjfjdidibglhaabDoor
open Go.RowKit

section
variable {q n : Nat} {ad mu : Nat → Nat → Nat} {ng : Nat → Nat}
theorem spL_vc (h : FqR q ad mu ng) {R : List (List Nat)} (hR : Rws q n R) : Rws q n (spL q ad mu n R) := fun v hv => ((spn_mem h _ rfl hR v).1 hv).vc h hR
def spT (q : Nat) (ad mu : Nat → Nat → Nat) (n : Nat) (out : List (List Nat)) (r : List Nat) (j : Nat) : List (List Nat) := (out.take j).flatMap fun m => (List.range q).map fun c => adV ad n m (smV mu n c r)
theorem spT_next {out : List (List Nat)} {r m : List Nat} {j : Nat} (h : out[j]? = some m) : spT q ad mu n out r (j + 1) = spT q ad mu n out r j ++ (List.range q).map fun c => adV ad n m (smV mu n c r) := by
  unfold spT
  rw [List.take_add_one, h, Option.toList_some, List.flatMap_append]
  simp
theorem spT_full (out : List (List Nat)) (r : List Nat) : spT q ad mu n out r out.length = spK q ad mu n out r := by unfold spT spK; rw [List.take_length]
theorem spT_len (out : List (List Nat)) (r : List Nat) (j : Nat) : (spT q ad mu n out r j).length ≤ out.length * q := by
  have h : (spT q ad mu n out r j).length = (spK q ad mu n (out.take j) r).length := rfl
  rw [h, spK_len, List.length_take]
  exact Nat.mul_le_mul_right q (Nat.min_le_right _ _)
theorem range_more (f : Nat → List Nat) (c : Nat) : (List.range (c + 1)).map f = (List.range c).map f ++ [f c] := by rw [List.range_succ, List.map_append]; rfl
theorem adv_of (u s : List Nat) (x : Nat) : ofF n (fun i => ad (u.getD i 0) (mu x (s.getD i 0))) = adV ad n u (smV mu n x s) := by
  unfold adV
  unfold ofF
  refine List.map_congr_left fun i hi => ?_
  rw [smV_at _ (List.mem_range.1 hi)]
end
theorem rw_at {w : World} {a : Option Addr} {m c : Nat} {S : List (List Nat)} (h : Rw w (.slice a m c) (toZ S)) {i : Nat} (hi : i < S.length) : ∃ r b off x, S[i]? = some r ∧ a = some ⟨b, off, none⟩ ∧ w.cell? ⟨b, off + i, none⟩ = some x ∧ Sl w x (r.map Int.ofNat) ∧ ∃ xa xn xc, x = .slice xa xn xc := by
  obtain ⟨a', c', e, h⟩ := h
  obtain ⟨rfl, _, _⟩ : a = a' ∧ _ := by simp only [Value.slice.injEq] at e; exact ⟨e.1, e.2⟩
  obtain ⟨b, off, x, h1, h2, h3⟩ := h i (S[i].map Int.ofNat) (by simp [toZ, hi])
  obtain ⟨xa, xc, ex, _⟩ := id h3
  exact ⟨S[i], b, off, x, by simp, h1, h2, h3, xa, _, xc, ex⟩
theorem newsR (w : World) (u : Value) (t : TypeId) : ∀ j v, [u][j]? = some v → (w.alloc (.cells #[u] t)).cell? ((⟨w.heap.size, 0, none⟩ : Addr).add j) = some v := fun j v hj => by
  match j, hj with
  | 0, hj =>
    simp only [List.getElem?_cons_zero, Option.some.injEq] at hj
    subst hj
    rw [Addr.add_mid, cell_of_row _ _ _ _ _ _ (heap_alloc_new w _)]
    rfl

theorem orow_low {w : World} {b b' : Nat} {u : Value} {l : List Nat} (h : ORow w b' u l) (hb : b ≤ b') : ORow w b u l := by
  obtain ⟨h1, h2 | ⟨g, cap, cur, h3, h4, h5⟩⟩ := h
  · exact ⟨h1, .inl h2⟩
  · exact ⟨h1, .inr ⟨g, cap, cur, h3, Nat.le_trans hb h4, h5⟩⟩
set_option maxRecDepth 100000 in
set_option maxHeartbeats 8000000 in
theorem spanned_any (P K n q : Nat) (l : List Int) (R : List (List Nat)) (v u : Value) (w : World) (hF : Fld P K l v w) (hq : Hid (P ^ K = q)) (hu : Rw w u (toZ R)) (hR : Rws (P ^ K) n R) (h1 : 1 ≤ n) (hn : n ≤ 6) (hm : R.length ≤ 6) (hk : (P ^ K) ^ R.length ≤ 128) :
    Calls Tryd.prog 19 #[.agg #[.int .i64 (P : Int), .int .i64 (K : Int), v], .int .i64 (q : Int), .int .i64 (n : Int), u] w fun e w' => ∃ x, e = .returned x ∧ Rw w' x (toZ (spL (P ^ K) (adF P K) (muF P K l) n R)) ∧ Below w.heap.size w w' := by
  have hfq := hF.fqr
  have hbx := balloc w (.cells #[.int .i64 (P : Int), .int .i64 (K : Int), v] 24)
  have HX := fl_box (P : Int) (K : Int) v w
  obtain ⟨i3, hi3, hz0, hz1, hz2⟩ := info36
  have HI : Hid (Tryd.prog.info? 22 = some i3 ∧ i3.zero = some (.slice none 0 0) ∧ i3.size = 1 ∧ i3.bytes = 24) := ⟨hi3, hz0, hz1, hz2⟩
  clear hi3 hz0 hz1 hz2
  have hq64 : q ≤ 64 := by rw [← hq.out]; exact hF.good.le64
  have HAdd : Hid (∀ W, Below w.heap.size w W → ∀ (r s : List Nat) (x : Nat) (a b : Value), Sl W a (r.map Int.ofNat) → Vc (P ^ K) n r → Sl W b (s.map Int.ofNat) → Vc (P ^ K) n s → x < P ^ K → Calls Tryd.prog 41 #[.agg #[.int .i64 (P : Int), .int .i64 (K : Int), v], a, .int .i64 (x : Int), b] W fun e w' => ∃ g, e = .returned (.slice (some ⟨g, 0, none⟩) n n) ∧ W.heap.size ≤ g ∧ ORow w' W.heap.size (.slice (some ⟨g, 0, none⟩) n n) (adV (adF P K) n r (smV (muF P K l) n x s)) ∧ Below W.heap.size W w') := fun W bW r s x a b ha hr hb hs hx => by
    refine (addR_any P K n x l r s v a b W (hF.below bW) ha hr hb hs hx h1 hn).mono ?_
    rintro e w' ⟨g, rfl, hg, ho, b'⟩
    refine ⟨g, rfl, hg, ?_, b'⟩
    have := ho.orow hg (by omega)
    rwa [adv_of] at this
  have HSp : Hid (∀ i, i ≤ R.length → Rws (P ^ K) n (spL (P ^ K) (adF P K) (muF P K l) n (R.take i)) ∧ (spL (P ^ K) (adF P K) (muF P K l) n (R.take i)).length ≤ 128) := fun i hi => by
    refine ⟨spL_vc hfq fun r hr => hR r (List.mem_of_mem_take hr), ?_⟩
    rw [spL_len i (R.take i) (by rw [List.length_take]; omega)]
    exact Nat.le_trans (Nat.pow_le_pow_right hfq.pos hi) hk
  have HNx : Hid (∀ i r, R[i]? = some r → spL (P ^ K) (adF P K) (muF P K l) n (R.take (i + 1)) = spK (P ^ K) (adF P K) (muF P K l) n (spL (P ^ K) (adF P K) (muF P K l) n (R.take i)) r) := fun i r hr => by
    rw [List.take_add_one, hr, Option.toList_some, spL_snoc]
  have HSt : Hid (spL (P ^ K) (adF P K) (muF P K l) n (R.take 0) = [zV n]) := rfl
  have HRF : Hid (R.take R.length = R) := List.take_length
  obtain ⟨ad, Had⟩ : ∃ ad, Hid (adF P K = ad) := ⟨_, rfl⟩
  obtain ⟨mu, Hmu⟩ : ∃ mu, Hid (muF P K l = mu) := ⟨_, rfl⟩
  rw [Had.out, Hmu.out] at HAdd HSp HNx HSt ⊢
  rw [hq.out] at HAdd HSp HNx HSt hR hk ⊢
  have HRr : Hid (Rws q n R) := hR
  have HU : Hid (∀ W, Below w.heap.size w W → Rw W u (toZ R)) := fun W b => hu.below b
  obtain ⟨ua, uc, rfl⟩ := rw_formY hu
  obtain ⟨fa, fn, fc, rfl⟩ : ∃ fa fn fc, v = .slice fa fn fc := by obtain ⟨a, c, e, _⟩ := hF.sl; exact ⟨a, _, c, e⟩
  obtain ⟨m, Hm⟩ : ∃ m, Hid (R.length = m) := ⟨_, rfl⟩
  rw [Hm.out] at hm HSp HU HRF ⊢
  have hmk := run_makeN n (by omega)
  have hs0 : (w.alloc (.cells #[.int .i64 (P : Int), .int .i64 (K : Int), .slice fa fn fc] 24)).heap.size = w.heap.size + 1 := by simp
  obtain ⟨w0, Hw0⟩ : ∃ w0, Hid (w.alloc (.cells #[.int .i64 (P : Int), .int .i64 (K : Int), .slice fa fn fc] 24) = w0) := ⟨_, rfl⟩
  rw [Hw0.out] at hs0
  have HX2 : Hid (∀ W, Below w0.heap.size w0 W → (W.cell? ⟨w.heap.size, 0, none⟩ = some (.int .i64 (P : Int)) ∧ W.cell? ⟨w.heap.size, 1, none⟩ = some (.int .i64 (K : Int)) ∧ W.cell? ⟨w.heap.size, 2, none⟩ = some (.slice fa fn fc))) := by rw [← Hw0.out]; exact HX
  have HB0 : Hid (Below w.heap.size w w0) := by rw [← Hw0.out]; exact hbx
  have hz := (((own_new w0 n).orow (base := 0) (Nat.zero_le _) (by omega)).sl)
  have hrz := sl_rw hz
  have hs1 : (w0.alloc (.cells (madeCells #[.int .i64 0] n) 3)).heap.size = w0.heap.size + 1 := by simp
  rw [hs1, hs0] at hrz
  have hb2 := Below.next (balloc w0 (.cells (madeCells #[.int .i64 0] n) 3)) (balloc _ (.cells #[.slice (some ⟨w0.heap.size, 0, none⟩) n n] 22))
  rw [hs0] at hb2
  have hrz2 : Rw ((w0.alloc (.cells (madeCells #[.int .i64 0] n) 3)).alloc (.cells #[.slice (some ⟨w.heap.size + 1, 0, none⟩) n n] 22)) (.slice (some ⟨w.heap.size + 1 + 1, 0, none⟩) 1 1) (toZ [zV n]) := hrz
  have HST : Hid (Rw ((w0.alloc (.cells (madeCells #[.int .i64 0] n) 3)).alloc (.cells #[.slice (some ⟨w.heap.size + 1, 0, none⟩) n n] 22)) (.slice (some ⟨w.heap.size + 1 + 1, 0, none⟩) 1 1) (toZ (spL q ad mu n (R.take 0))) ∧ Below w0.heap.size w0 ((w0.alloc (.cells (madeCells #[.int .i64 0] n) 3)).alloc (.cells #[.slice (some ⟨w.heap.size + 1, 0, none⟩) n n] 22))) := ⟨hrz2, by rw [hs0]; exact hb2⟩
  have Hs0 : Hid (w0.heap.size = w.heap.size + 1) := hs0
  clear hF HX hfq hu hbx hz hrz hrz2 hb2 hs0 hs1 hR
  go_enter Tryd.func19, Tryd.ntmps19
  go_wp2_with fail
  rw [Hw0.out]
  obtain ⟨ws, Hws⟩ : ∃ ws, Hid ((w0.alloc (.cells (madeCells #[.int .i64 0] n) 3)).alloc (.cells #[.slice (some ⟨w.heap.size + 1, 0, none⟩) n n] 22) = ws) := ⟨_, rfl⟩
  rw [Hws.out] at HST ⊢
  go_loopw [9, 21] (fun ov iv wr => ∃ i : Nat, iv = .int .i64 (i : Int) ∧ i ≤ m ∧ Hid (Rw wr ov (toZ (spL q ad mu n (R.take i)))) ∧ Below w0.heap.size w0 wr) (fun _ iv _ => (m - intOf iv).toNat)
  case atStart => exact ⟨0, rfl, by omega, HST.out.1, HST.out.2⟩
  case round =>
    clear HST hmk
    obtain ⟨i, rfl, hi, HO, hB⟩ := hrel
    have hBB := Below.next HB0.out hB
    by_cases hlt : i < m
    · have hii : (i : Int) < (m : Int) := by omega
      have hdi : decide ((i : Int) < (m : Int)) = true := by simp; omega
      obtain ⟨r, b, off, rx, hri, rfl, hcr, hSr, ra, rn, rc, rfl⟩ := rw_at (HU.out wr hBB) (i := i) (by rw [Hm.out]; exact hlt)
      have HVr : Hid (Vc q n r) := HRr.out r (List.mem_of_getElem? hri)
      have HNx2 : Hid _ := HNx.out i r hri
      obtain ⟨hOr, hOl⟩ := HSp.out i hi
      obtain ⟨out, Hout⟩ : ∃ out, Hid (spL q ad mu n (R.take i) = out) := ⟨_, rfl⟩
      rw [Hout.out] at HO HNx2 hOr hOl
      obtain ⟨oa, oc, eo⟩ := rw_formY HO.out
      subst eo
      have HOr : Hid (Rws q n out) := hOr
      have HSr : Hid (∀ W, Below wr.heap.size wr W → Sl W (.slice ra rn rc) (r.map Int.ofNat)) := fun W bW => hSr.below bW
      obtain ⟨o, Ho⟩ : ∃ o, Hid (out.length = o) := ⟨_, rfl⟩
      have HTf : Hid (spT q ad mu n out r o = spK q ad mu n out r) := by rw [← Ho.out]; exact spT_full out r
      have HTl : Hid (∀ j, (spT q ad mu n out r j).length ≤ 128 * 64) := fun j => Nat.le_trans (spT_len out r j) (Nat.mul_le_mul hOl hq64)
      have HT0 : Hid (spT q ad mu n out r 0 = []) := rfl
      rw [Ho.out] at HO hOl ⊢
      clear hOr hSr hri
      obtain ⟨wx, hwx⟩ : ∃ wx, wx = wr := ⟨_, rfl⟩
      subst hwx
      go_wp2_with fail
      have HBx : Hid (∀ W, Below wx.heap.size wx W → Below w0.heap.size w0 W) := fun W bW => Below.next hB bW
      have HOx : Hid (∀ W, Below wx.heap.size wx W → Rw W (.slice oa o oc) (toZ out)) := fun W bW => HO.out.below bW
      have Hsx : Hid (w.heap.size < wx.heap.size) := by have h1 := hB.size; have h2 := Hs0.out; show _ < _; omega
      go_loopw [12, 27] (fun mv jv wt => ∃ j : Nat, jv = .int .i64 (j : Int) ∧ j ≤ o ∧ Hid (OR wt wx.heap.size mv (spT q ad mu n out r j)) ∧ Below wx.heap.size wx wt) (fun _ jv _ => (o - intOf jv).toNat)
      case atStart => exact ⟨0, rfl, by omega, OR.nil _ _, Below.refl _ _⟩
      case round =>
        clear hcr hB hBB HO
        obtain ⟨j, rfl, hj, HM, hC⟩ := hrel
        by_cases hjo : j < o
        · have hji : (j : Int) < (o : Int) := by omega
          have hdj : decide ((j : Int) < (o : Int)) = true := by simp; omega
          obtain ⟨d, b2, off2, dx, hdi2, rfl, hcd0, hSd, da, dn, dc, rfl⟩ := rw_at (HOx.out wx (Below.refl _ _)) (i := j) (by rw [Ho.out]; exact hjo)
          have hcd := (hC.cell (World.block_lt_of_cell? _ _ hcd0)).trans hcd0
          have HSd : Hid (∀ W, Below wx.heap.size wx W → Sl W (.slice da dn dc) (d.map Int.ofNat)) := fun W bW => hSd.below bW
          have HVd : Hid (Vc q n d) := HOr.out d (List.mem_of_getElem? hdi2)
          have HTn : Hid _ := spT_next (q := q) (ad := ad) (mu := mu) (n := n) (r := r) hdi2
          have hTl := HTl.out j
          obtain ⟨pre, Hpre⟩ : ∃ pre, Hid (spT q ad mu n out r j = pre) := ⟨_, rfl⟩
          rw [Hpre.out] at HM HTn hTl
          have HTl2 : Hid (∀ c, c ≤ q → (pre ++ (List.range c).map fun c => adV ad n d (smV mu n c r)).length ≤ 9999) := fun c hc => by rw [List.length_append, List.length_map, List.length_range]; omega
          have HM0 : Hid (OR wr wx.heap.size u12 (pre ++ (List.range 0).map fun c => adV ad n d (smV mu n c r))) := by show OR _ _ _ _; rw [List.range_zero, List.map_nil, List.append_nil]; exact HM.out
          obtain ⟨wy, hwy⟩ : ∃ wy, wy = wr := ⟨_, rfl⟩
          subst hwy
          have HCy : Hid (Below wx.heap.size wx wy) := hC
          clear hSd hdi2 HM hTl hC hcd0
          go_wp2_with fail
          go_loopw [12, 32] (fun mv cv wt => ∃ c : Nat, cv = .int .i64 (c : Int) ∧ c ≤ q ∧ Hid (OR wt wx.heap.size mv (pre ++ (List.range c).map fun c => adV ad n d (smV mu n c r))) ∧ Below wx.heap.size wx wt) (fun _ cv _ => (q - intOf cv).toNat)
          case atStart => exact ⟨0, rfl, by omega, HM0, HCy.out⟩
          case round =>
            clear HM0 hcd
            obtain ⟨c, rfl, hc, HM, hC⟩ := hrel
            have hBB := Below.next HB0.out (HBx.out _ hC)
            have hsz := hC.size
            have hsx := Hsx.out
            by_cases hcq : c < q
            · have hci : (c : Int) < (q : Int) := by omega
              have hdc : decide ((c : Int) < (q : Int)) = true := by simp; omega
              have hTl := HTl2.out c hc
              have HTm : Hid _ := range_more (fun c => adV ad n d (smV mu n c r)) c
              obtain ⟨Ls, HLs⟩ : ∃ Ls, Hid ((pre ++ (List.range c).map fun c => adV ad n d (smV mu n c r)) = Ls) := ⟨_, rfl⟩
              have HNx3 : Hid ((pre ++ (List.range (c + 1)).map fun c => adV ad n d (smV mu n c r)) = Ls ++ [adV ad n d (smV mu n c r)]) := by show _ = _; rw [HTm.out, ← List.append_assoc, HLs.out]
              rw [HLs.out] at HM hTl
              have CA := HAdd.out _ hBB d r c _ _ (HSd.out _ hC) HVd.out (HSr.out _ hC) HVr.out hcq
              obtain ⟨el, Hel⟩ : ∃ el, Hid (adV ad n d (smV mu n c r) = el) := ⟨_, rfl⟩
              rw [Hel.out] at CA HNx3
              obtain ⟨t, Ht⟩ : ∃ t, Hid (Ls.length = t) := ⟨_, rfl⟩
              have HOW : Hid (∀ W, Below wr.heap.size wr W → ∃ vals : List Value, W.ownsRow wx.heap.size 22 1 u12 t vals ∧ ∀ (j : Nat) (u : Value) (m : List Nat), vals[j]? = some u → Ls[j]? = some m → ORow W wx.heap.size u m) := fun W bW => by
                obtain ⟨vals, h1, h2⟩ := HM.out.below bW
                rw [Ht.out] at h1
                exact ⟨vals, h1, h2⟩
              obtain ⟨ma, mc, em⟩ := HM.out.cap
              rw [Ht.out] at em hTl
              subst em
              have hi3 := HI.out.1
              have hz0 := HI.out.2.1
              have hz1 := HI.out.2.2.1
              have hz2 := HI.out.2.2.2
              obtain ⟨y0, y1, y2⟩ := HX2.out _ (HBx.out _ hC)
              clear HM
              go_wp2_with (first
                | (go_at_call 41; refine CA.mono ?_; rintro e2 w2 ⟨g, rfl, hg, hy, b2'⟩; clear CA; obtain ⟨vals, hv1, hv2⟩ := HOW.out w2 b2'; have hs2 := b2'.size)
                | (at_builtin; refine wpList_append_own _ rfl _ _ 25 rfl wx.heap.size 22 i3 (.slice none 0 0) 1 24 undR hi3 hz0 hz1 hz2 rfl (by decide) _ _ _ rfl (hv1.alloc _) ⟨w2.heap.size, 0, none⟩ 1 1 [.slice (some ⟨g, 0, none⟩) n n] rfl rfl (newsR w2 _ _) (fun u hu => by (simp at hu; subst hu; rfl)) (by (unfold maxLen; omega)) (by omega) (by (simp; omega)) ?_; intro v' w3 hown' hgrow _)
                | go_in)
              have hal := balloc w2 (.cells #[.slice (some ⟨g, 0, none⟩) n n] 22)
              have hB3 : Below wx.heap.size wx w3 := ((Below.next hC b2').alloc (by omega) _).grown hgrow (by simp; omega) (fun k hk => (hv1.lt k hk).1)
              have hO3 : OR w3 wx.heap.size v' (Ls ++ [el]) := OR.more (own_keep (by rw [Ht.out]; exact hv1) fun b _ hb => hal.block b hb) (fun j u m e1 e2 => (hv2 j u m e1 e2).below hal) ((orow_low hy hsz).below hal) (by rw [Ht.out]; exact hown') hgrow
              clear hown' hgrow hv1 hv2
              go_roundw
              case rel => exact ⟨c + 1, by go_num, by omega, by rw [HNx3.out]; exact hO3, hB3⟩
              case measure => simp [intOf]; omega
            · have hdc : decide ((c : Int) < (q : Int)) = false := by simp; omega
              obtain rfl : q = c := by omega
              rw [← HTn.out] at HM
              go_wp2
              go_roundw
              case rel => exact ⟨j + 1, by go_num, by omega, HM, hC⟩
              case measure => simp [intOf]; omega
        · have hdj : decide ((j : Int) < (o : Int)) = false := by simp; omega
          obtain rfl : o = j := by omega
          have HR2 : Hid (Rw wr u12 (toZ (spL q ad mu n (R.take (i + 1))))) := by
            show Rw _ _ _
            rw [HNx2.out, ← HTf.out]
            exact HM.out.rw
          have hB2 := HBx.out _ hC
          go_wp2
          go_roundw
          case rel => exact ⟨i + 1, by go_num, by omega, HR2, hB2⟩
          case measure => simp [intOf]; omega
    · have hdi : decide ((i : Int) < (m : Int)) = false := by simp; omega
      obtain rfl : m = i := by omega
      rw [HRF.out] at HO
      go_wp2
      go_ret
      exact ⟨_, rfl, HO.out, hBB⟩
end Go.Proofs.YtjfjdidibglhaabDoor

/- The least weight of what is normal to a space, found by looking at all; the runs of a space as a list of rows. -/
/- array.Linear, walked. -/
namespace Go.Proofs.YtjfjdidibglhaabDoor
open Go.RowKit

open Classical in
/-- All of a space, one after another. -/
noncomputable def lnL (q : Nat) (ad mu : Nat → Nat → Nat) (n : Nat) (S : List (List Nat)) : List (List Nat) := liL q n fun v => decide (Spn q ad mu n S v)
/-- What is wrong with it, and what is told. -/
noncomputable def lnZ (q : Nat) (ad mu : Nat → Nat → Nat) (n : Nat) (S : List (List Nat)) : Nat := if 128 < (lnL q ad mu n S).length then 3 else 0
noncomputable def lnR (q : Nat) (ad mu : Nat → Nat → Nat) (n : Nat) (S : List (List Nat)) : List (List Nat) := if 128 < (lnL q ad mu n S).length then [] else lnL q ad mu n S
theorem lnL_bas {q n : Nat} {ad mu : Nat → Nat → Nat} {ng : Nat → Nat} (h : FqR q ad mu ng) {S R : List (List Nat)} (hR : BasIs q ad mu n (Spn q ad mu n S) R) : spL q ad mu n R = lnL q ad mu n S := spL_doc h (hR.congr fun v => by simp)
theorem rw_nil (w : World) : Rw w (.slice none 0 0) (toZ []) := ⟨none, 0, rfl, fun i l h => by simp [toZ] at h⟩

set_option maxRecDepth 100000 in
set_option maxHeartbeats 8000000 in
theorem Linear_err (p k n z : Int) (v u : Value) (w : World) (hv : ∃ a m c, v = .slice a m c) (hu : ∃ a m c, u = .slice a m c) (h0 : z ≠ 0)
    (hC : ∀ W, Below w.heap.size w W → Calls Tryd.prog 17 #[.agg #[.int .i64 p, .int .i64 k, v], .int .i64 n, u] W fun e w' => (∃ a m c, e = .returned (.tuple #[.slice a m c, .int .i64 z])) ∧ Below W.heap.size W w') :
    Calls Tryd.prog 7 #[.agg #[.int .i64 p, .int .i64 k, v], .int .i64 n, u] w fun e w' => e = .returned (.tuple #[.slice none 0 0, .int .i64 z]) ∧ Below w.heap.size w w' := by
  obtain ⟨fa, fn, fc, rfl⟩ := hv
  obtain ⟨ua, um, uc, rfl⟩ := hu
  have b1 := balloc w (.cells #[.int .i64 p, .int .i64 k, .slice fa fn fc] 24)
  obtain ⟨x0, x1, x2⟩ := fl_box p k (.slice fa fn fc) w _ (Below.refl _ _)
  have C := hC _ b1
  have hne : (z != 0) = true := by simpa using h0
  clear hC
  go_enter Tryd.func7, Tryd.ntmps7
  go_wp2_with (go_at_call 17; refine C.mono ?_; rintro e w1 ⟨⟨ra, rm, rc, rfl⟩, b2⟩; clear C)
  go_ret2
  exact ⟨rfl, Below.next b1 b2⟩
set_option maxRecDepth 100000 in
set_option maxHeartbeats 8000000 in
theorem Linear_ok (P K n : Nat) (l : List Int) (v u : Value) (S : List (List Nat)) (w : World) (hF : Fld P K l v w) (h1 : 1 ≤ n) (hn : n ≤ 6) (hf : (P ^ K) ^ n ≤ 4096) (hu : ∃ a m c, u = .slice a m c)
    (hC : ∀ W, Below w.heap.size w W → Calls Tryd.prog 17 #[.agg #[.int .i64 (P : Int), .int .i64 (K : Int), v], .int .i64 (n : Int), u] W fun e w' => AnsB (P ^ K) (adF P K) (muF P K l) n (Spn (P ^ K) (adF P K) (muF P K l) n S) 0 e w' ∧ Below W.heap.size W w') :
    Calls Tryd.prog 7 #[.agg #[.int .i64 (P : Int), .int .i64 (K : Int), v], .int .i64 (n : Int), u] w fun e w' => ∃ x, e = .returned (.tuple #[x, .int .i64 (lnZ (P ^ K) (adF P K) (muF P K l) n S : Int)]) ∧ Rw w' x (toZ (lnR (P ^ K) (adF P K) (muF P K l) n S)) ∧ Below w.heap.size w w' := by
  have hfq := hF.fqr
  have HF : Hid (∀ W, Below w.heap.size w W → Fld P K l v W) := fun W b => hF.below b
  have HL : Hid (∀ R, BasIs (P ^ K) (adF P K) (muF P K l) n (Spn (P ^ K) (adF P K) (muF P K l) n S) R → (P ^ K) ^ R.length ≤ 4096 ∧ (lnL (P ^ K) (adF P K) (muF P K l) n S).length = (P ^ K) ^ R.length ∧ R.length ≤ 6 ∧ Rws (P ^ K) n R ∧ spL (P ^ K) (adF P K) (muF P K l) n R = lnL (P ^ K) (adF P K) (muF P K l) n S) := fun R hR => by
    have h2 := rref_le hR.rref
    have h3 := lnL_bas hfq hR
    exact ⟨Nat.le_trans (Nat.pow_le_pow_right hfq.pos h2) hf, by rw [← h3]; exact spL_len _ R rfl, by omega, hR.rref.rws, h3⟩
  have hP1 : 1 ≤ P := by have := hF.good.field.two; omega
  have hP61 := hF.good.le61
  have hK6 := hF.good.le6
  have h64 := hF.good.le64
  have hpos := hfq.pos
  obtain ⟨q, Hq⟩ : ∃ q, Hid (P ^ K = q) := ⟨_, rfl⟩
  have CP := fun W => apow_small P K W hP1 (by omega) (by omega) q Hq
  have HSpn : Hid (∀ W (x : Value) (R : List (List Nat)), Below w.heap.size w W → Rw W x (toZ R) → Rws (P ^ K) n R → R.length ≤ 6 → (P ^ K) ^ R.length ≤ 128 → Calls Tryd.prog 19 #[.agg #[.int .i64 (P : Int), .int .i64 (K : Int), v], .int .i64 (q : Int), .int .i64 (n : Int), x] W fun e w' => ∃ x, e = .returned x ∧ Rw w' x (toZ (spL (P ^ K) (adF P K) (muF P K l) n R)) ∧ Below W.heap.size W w') := fun W x R b hx hR h6 hk =>
    spanned_any P K n q l R v x W (hF.below b) Hq hx hR h1 hn h6 hk
  obtain ⟨ad, Had⟩ : ∃ ad, Hid (adF P K = ad) := ⟨_, rfl⟩
  obtain ⟨mu, Hmu⟩ : ∃ mu, Hid (muF P K l = mu) := ⟨_, rfl⟩
  rw [Had.out, Hmu.out] at hC HL HSpn ⊢
  rw [Hq.out] at hC HL HSpn h64 hpos ⊢
  obtain ⟨ua, um, uc, rfl⟩ := hu
  obtain ⟨fa, fn, fc, rfl⟩ : ∃ fa fn fc, v = .slice fa fn fc := by obtain ⟨a, c, e, _⟩ := hF.sl; exact ⟨a, _, c, e⟩
  have b1 := balloc w (.cells #[.int .i64 (P : Int), .int .i64 (K : Int), .slice fa fn fc] 24)
  have HX := fl_box (P : Int) (K : Int) (.slice fa fn fc) w
  obtain ⟨w0, Hw0⟩ : ∃ w0, Hid (w.alloc (.cells #[.int .i64 (P : Int), .int .i64 (K : Int), .slice fa fn fc] 24) = w0) := ⟨_, rfl⟩
  rw [Hw0.out] at b1 HX
  have HX2 : Hid (∀ W, Below w0.heap.size w0 W → (W.cell? ⟨w.heap.size, 0, none⟩ = some (.int .i64 (P : Int)) ∧ W.cell? ⟨w.heap.size, 1, none⟩ = some (.int .i64 (K : Int)) ∧ W.cell? ⟨w.heap.size, 2, none⟩ = some (.slice fa fn fc))) := HX
  have C := hC _ b1
  obtain ⟨x0, x1, x2⟩ := HX2.out w0 (Below.refl _ _)
  rw [← Hw0.out] at x0 x1 x2
  clear hC hF hfq HX Hq Had Hmu
  go_enter Tryd.func7, Tryd.ntmps7
  go_wp2_with (first
    | (go_at_call 17; rw [Hw0.out]; refine C.mono ?_; rintro e w1 ⟨⟨ba, bm, bc, rfl, hbm, hls⟩, b2⟩; clear C x0 x1 x2; obtain ⟨x0, x1, x2⟩ := HX2.out w1 b2)
    | (go_at_call 18; fail))
  obtain ⟨R, hR, Hbm, hRw⟩ := hls (by trivial)
  obtain ⟨k1, k2, k3, k4, k5⟩ := HL.out R hR
  rw [Hbm.out] at k1 k2 k3
  have hB := Below.next b1 b2
  have CP1 := CP w1
  obtain ⟨t, Ht⟩ : ∃ t, Hid (q ^ bm = t) := ⟨_, rfl⟩
  have CP2 := fun W => apow_small q bm W hpos h64 (by omega) t Ht
  rw [Ht.out] at k1 k2
  have HRR : Hid (R.length ≤ 6 ∧ Rws q n R ∧ q ^ R.length = t) := ⟨by rw [Hbm.out]; exact k3, k4, by rw [Hbm.out, Ht.out]⟩
  have HR1 : Hid (Rw w1 (.slice ba bm bc) (toZ R)) := hRw
  have Hk2 : Hid ((lnL q ad mu n S).length = t) := k2
  have Hk5 : Hid (spL q ad mu n R = lnL q ad mu n S) := k5
  clear CP HL hls hR hRw k4 k5 k2
  by_cases hbig : 128 < t
  · have hd : decide ((128 : Int) < (t : Int)) = true := by simp; omega
    have HZ : Hid (lnZ q ad mu n S = 3 ∧ lnR q ad mu n S = []) := by unfold lnZ lnR; rw [Hk2.out]; exact ⟨if_pos hbig, if_pos hbig⟩
    go_wp2_with (go_at_call 18; refine CP1.mono ?_; rintro e w2 ⟨rfl, rfl⟩; clear CP1)
    have C2 := CP2 w2
    go_wp2_with (go_at_call 18; refine C2.mono ?_; rintro e w3 ⟨rfl, rfl⟩; clear C2)
    go_ret2
    exact ⟨_, by rw [HZ.out.1]; rfl, by rw [HZ.out.2]; exact rw_nil _, hB⟩
  · have hd : decide ((128 : Int) < (t : Int)) = false := by simp; omega
    have HZ : Hid (lnZ q ad mu n S = 0 ∧ lnR q ad mu n S = lnL q ad mu n S) := by unfold lnZ lnR; rw [Hk2.out]; exact ⟨if_neg hbig, if_neg hbig⟩
    have C3 := HSpn.out w1 _ R hB HR1.out HRR.out.2.1 HRR.out.1 (by rw [HRR.out.2.2]; omega)
    rw [Hk5.out] at C3
    go_wp2_with (go_at_call 18; refine CP1.mono ?_; rintro e w2 ⟨rfl, rfl⟩; clear CP1)
    have C2 := CP2 w2
    go_wp2_with (first
      | (go_at_call 18; refine C2.mono ?_; rintro e w3 ⟨rfl, rfl⟩; clear C2)
      | (go_at_call 19; refine C3.mono ?_; rintro e w4 ⟨x, rfl, hx, b4⟩; clear C3; obtain ⟨xa, xm, xc, rfl, _⟩ := rw_formH hx))
    go_ret2
    exact ⟨_, by rw [HZ.out.1]; rfl, by rw [HZ.out.2]; exact hx, Below.next hB b4⟩
end Go.Proofs.YtjfjdidibglhaabDoor

namespace Go.Proofs.YtjfjdidibglhaabDoor
open Go.RowKit

theorem fnA_nat (l : List Nat) (c : Nat) : fnA (l.map Int.ofNat) c = l.getD c 0 := by
  unfold fnA
  rw [List.getD_eq_getElem?_getD, List.getD_eq_getElem?_getD, List.getElem?_map]
  cases l[c]? <;> rfl
theorem rnA_toZ (L : List (List Nat)) : rnA (toZ L) = L.map fun l c => l.getD c 0 := by
  unfold rnA toZ
  rw [List.map_map]
  refine List.map_congr_left fun l _ => ?_
  funext c
  exact fnA_nat l c
theorem rn_tie (q : Nat) (ad mu : Nat → Nat → Nat) (n : Nat) (S : List (List Nat)) : rnA (toZ (lnL q ad mu n S)) = rnL q ad mu n S := by
  rw [rnA_toZ]
  rfl
theorem lnL_row {q n : Nat} {ad mu : Nat → Nat → Nat} {S : List (List Nat)} {r : List Nat} (h : 0 < q) (hr : r ∈ lnL q ad mu n S) : Vc q n r := by
  unfold lnL liL at hr
  obtain ⟨c, _, rfl⟩ := List.mem_map.1 hr
  exact opn_vc h n c
theorem lnL_mem {q n : Nat} {ad mu : Nat → Nat → Nat} {ng : Nat → Nat} (h : FqR q ad mu ng) {S : List (List Nat)} (hS : Rws q n S) {r : List Nat} : r ∈ lnL q ad mu n S ↔ Spn q ad mu n S r := by
  unfold lnL liL
  simp only [List.mem_map, List.mem_filter, List.mem_range, decide_eq_true_eq]
  constructor
  · rintro ⟨c, ⟨_, hc⟩, rfl⟩
    exact hc
  · intro hv
    have hm := (mem_allV h.pos).2 (hv.vc h hS)
    unfold allV at hm
    obtain ⟨c, hc, rfl⟩ := List.mem_map.1 hm
    exact ⟨c, ⟨List.mem_range.1 hc, hv⟩, rfl⟩
theorem wt_step (i : Nat) (v : List Nat) : wtV (i + 1) v = wtV i v + if v.getD i 0 = 0 then 0 else 1 := by
  unfold wtV
  rw [List.range_succ, List.filter_append, List.length_append]
  by_cases h : v.getD i 0 = 0
  · rw [if_pos h]
    simp [-List.getD_eq_getElem?_getD, h]
  · rw [if_neg h]
    simp [-List.getD_eq_getElem?_getD, h]
/-- The least weight of those marked below c; n + 1 where there are none. -/
def LeW (q n : Nat) (V : Nat → Bool) (c m : Nat) : Prop := (∀ d, 1 ≤ d → d < c → V d = true → m ≤ wtV n (opn q n d)) ∧ (m = n + 1 ∨ ∃ d, 1 ≤ d ∧ d < c ∧ V d = true ∧ wtV n (opn q n d) = m)
theorem LeW.skip {q n : Nat} {V : Nat → Bool} {c m : Nat} (h : LeW q n V c m) (hc : V c = false) : LeW q n V (c + 1) m := by
  refine ⟨fun d h1 h2 h3 => ?_, h.2.imp id fun ⟨d, h1, h2, h3⟩ => ⟨d, h1, by omega, h3⟩⟩
  by_cases e : d = c
  · rw [e, hc] at h3; cases h3
  · exact h.1 d h1 (by omega) h3
theorem LeW.less {q n : Nat} {V : Nat → Bool} {c m : Nat} (h : LeW q n V c m) (h0 : 1 ≤ c) (hc : V c = true) (hw : wtV n (opn q n c) < m) : LeW q n V (c + 1) (wtV n (opn q n c)) := by
  refine ⟨fun d h1 h2 h3 => ?_, .inr ⟨c, h0, by omega, hc, rfl⟩⟩
  by_cases e : d = c
  · rw [e]; exact Nat.le_refl _
  · have := h.1 d h1 (by omega) h3
    omega
theorem LeW.more {q n : Nat} {V : Nat → Bool} {c m : Nat} (h : LeW q n V c m) (hw : ¬ wtV n (opn q n c) < m) : LeW q n V (c + 1) m := by
  refine ⟨fun d h1 h2 h3 => ?_, h.2.imp id fun ⟨d, h1, h2, h3⟩ => ⟨d, h1, by omega, h3⟩⟩
  by_cases e : d = c
  · rw [e]; omega
  · exact h.1 d h1 (by omega) h3
theorem LeW.dual {q n : Nat} {ad mu : Nat → Nat → Nat} {ng : Nat → Nat} (h : FqR q ad mu ng) {S M : List (List Nat)} (hS : Rws q n S) (hM : BasIs q ad mu n (Nrm q ad mu n S) M) {V : Nat → Bool} (hV : ∀ c, c < q ^ n → (V c = true ↔ Spn q ad mu n M (opn q n c))) {t m : Nat}
    (hs : StrIs q n (rnL q ad mu n S) t) (hw : LeW q n V (q ^ n) m) : t = m - 1 ∧ 1 ≤ m ∧ m ≤ n + 1 := by
  have hne : ∀ d, 1 ≤ d → d < q ^ n → opn q n d ≠ zV n := fun d h1 h2 e => by
    have k := shu_opn (q := q) n d h2
    have k0 := shu_opn (q := q) n 0 (by omega)
    rw [e] at k
    rw [opn_null] at k0
    omega
  have hpos : ∀ v, Vc q n v → v ≠ zV n → 1 ≤ wtV n v := fun v hv hz => by
    refine Classical.byContradiction fun h0 => hz (zV_of hv.len fun j hj => Classical.byContradiction fun e => ?_)
    have hm : j ∈ (List.range n).filter fun j => v.getD j 0 != 0 := List.mem_filter.2 ⟨List.mem_range.2 hj, by simpa using e⟩
    have := List.length_pos_of_mem hm
    unfold wtV at h0
    omega
  have h1 : 1 ≤ m := by
    rcases hw.2 with e | ⟨d, k1, k2, _, e⟩
    · omega
    · rw [← e]; exact hpos _ (opn_vc h.pos n d) (hne d k1 k2)
  have hle : m ≤ n + 1 := by
    rcases hw.2 with e | ⟨d, k1, k2, _, e⟩
    · omega
    · have := wt_le n (opn q n d); omega
  refine ⟨dual_least h hS hs (fun v hv hz => ?_) (hw.2.imp id fun ⟨d, k1, k2, k3, e⟩ => ⟨opn q n d, (hM.same _).1 ((hV d k2).1 k3), hne d k1 k2, e⟩) h1, h1, hle⟩
  have hlt := shu_lt h.pos n v hv.1
  have ho := opn_shu h.pos n v hv.1
  have h0 : shu q v ≠ 0 := fun e => hz (by rw [← ho, e, opn_null])
  have k := hw.1 (shu q v) (by omega) hlt ((hV _ hlt).2 (by rw [ho]; exact (hM.same v).2 hv))
  rwa [ho] at k
end Go.Proofs.YtjfjdidibglhaabDoor

namespace Go.Proofs.YtjfjdidibglhaabDoor
open Go.RowKit

theorem rw_sl {w : World} {x : Value} {ls : List (List Int)} (h : Rw w x ls) : ∃ a m c, x = .slice a m c := by
  obtain ⟨a, c, e, _⟩ := h
  exact ⟨a, _, c, e⟩
end Go.Proofs.YtjfjdidibglhaabDoor
