/- How the laws' arguments are opened: squares; what the table of orders holds. -/
import Derived.Test.YtncnaaohihmjnaaDoorCj
import Derived.Test.YtncnaaohihmjnaaDoorRows
import Derived.Test.YtncnaaohihmjnaaDoorChecked
import Derived.ProofKit
import Derived.LaidMore
import Derived.OpenShut
import Derived.Stop.Joined
import Derived.ChangeOld
import Derived.Lib.LaidTab
import Derived.Lib.SmallJoins
namespace Go.Proofs.YtncnaaohihmjnaaDoor
open Go.ChangeShapes Go.WideShapes Go.ChangeAt Go.RowKit Go.Joins

theorem own : ownKnob Tryd.prog.godebug = none := by kernel_rfl
theorem laidOut : laidOutB Tryd.prog = true := by kernel_rfl
def laid1 : List (String × DataW Unit) := [("parterre/latin.orders", Rows.laid_parterre_latin_orders)]
theorem door_met (os : Os) (args : Array Value) : laidMetH Tryd.prog laid1 ((World.doorLaid Tryd.prog 400 os).forCall (fun _ _ => 0) ⟨#[], args, []⟩).memory :=
  laidMetH_of_parts3 (fuel := 8) (laidMet_of_run' 8 (by kernel_rfl) (by kernel_rfl)) (by kernel_rfl) (by kernel_rfl)
theorem ord_row {W : World} {held : Bool} {fuel : Nat} {cs : List Value} {ds : List (List Int)} {q : List MemPlace} (h : DataW.trod (fun _ : TypeId × Value => ()) Tryd.prog W 0 (fun _ => true) held fuel 56 cs = some (.agg (ds.map fun zs => Lib.tabData .i64 zs), q)) (hl : ∀ zs ∈ ds, zs.length = 3) (_hd : ds.length = 6) : ∀ i j, i < 6 → j < 3 → cs[i * 3 + j]? = some (.int .i64 ((ds.getD i []).getD j 0)) := fun i j hi hj => by
  cases fuel with
  | zero => simp [DataW.trod] at h
  | succ fuel =>
    have u56 : Tryd.prog.underlying 56 = some (.array 6 55) := by kernel_rfl
    have c55 : Tryd.prog.cellsOf 55 = 3 := by kernel_rfl
    simp only [DataW.trod, u56, c55] at h
    split at h
    · obtain ⟨xs, hm, hx⟩ := Option.map_eq_some_iff.1 h
      obtain ⟨b, hb, hf⟩ := Lib.mapM_at hm i i (by simp [hi])
      have hxs : xs.map (·.1) = ds.map fun zs => Lib.tabData .i64 zs := by
        have := congrArg Prod.fst hx
        simpa using this
      have h2 : (xs.map (·.1))[i]? = some b.1 := by simp [hb]
      rw [hxs, List.getElem?_map] at h2
      obtain ⟨zs, hzs, e⟩ := Option.map_eq_some_iff.1 h2
      have hzl := hl zs (List.mem_of_getElem? hzs)
      have hf' : DataW.trod (fun _ : TypeId × Value => ()) Tryd.prog W 0 (fun _ => true) held fuel 55 ((cs.drop (i * 3)).take 3) = some (Lib.tabData .i64 zs, b.2) := by
        rw [hf]
        congr 1
        exact Prod.ext e.symm rfl
      have e1 := Lib.cells_of_tab (P := Tryd.prog) (t := 55) (e := 3) (n := 3) (k := .i64) (by kernel_rfl) und3 (by kernel_rfl) (by kernel_rfl) hf'
      have e2 := congrArg (fun l => l[j]?) e1
      simp only [List.getElem?_map] at e2
      rw [List.getElem?_take_of_lt hj, List.getElem?_drop] at e2
      rw [e2]
      have hg : ds.getD i [] = zs := by simp [List.getD_eq_getElem?_getD, hzs]
      rw [hg]
      simp [List.getD_eq_getElem?_getD, show j < zs.length from by omega]
    · cases h
def ordL : List (List Int) := [[0, 1, 2], [0, 2, 1], [1, 0, 2], [1, 2, 0], [2, 0, 1], [2, 1, 0]]
theorem ord_of_laid {W : World} (h : laidMetH Tryd.prog laid1 W) : OT W := by
  rw [MakeChecks.laidMetH_plain _ _ _ (by kernel_rfl)] at h
  have hg : Tryd.prog.globalNamed "parterre/latin.orders" = some 0 := by kernel_rfl
  obtain ⟨ps, ⟨g', t', cs, fuel, p, q, hg', ht', hvar, hd, _, _⟩, _⟩ := h
  obtain rfl := Option.some.inj (hg.symm.trans hg')
  have hty : (Tryd.prog.globals[0]?).map (·.type) = some 56 := by kernel_rfl
  obtain rfl := Option.some.inj (hty.symm.trans ht')
  unfold World.var? at hvar
  rw [hg] at hvar
  simp only [Option.bind_some] at hvar
  split at hvar
  · rename_i cs' t fr e
    simp only [Option.some.injEq] at hvar
    subst hvar
    refine ⟨_, t, fr, e, fun j hj => ?_⟩
    have k := ord_row (ds := ordL) hd (by decide) rfl (j / 3) (j % 3) (by omega) (by omega)
    rw [show j / 3 * 3 + j % 3 = j from Nat.div_add_mod' j 3] at k
    rw [← Array.getElem?_toList, k]
    rcases (show j = 0 ∨ j = 1 ∨ j = 2 ∨ j = 3 ∨ j = 4 ∨ j = 5 ∨ j = 6 ∨ j = 7 ∨ j = 8 ∨ j = 9 ∨ j = 10 ∨ j = 11 ∨ j = 12 ∨ j = 13 ∨ j = 14 ∨ j = 15 ∨ j = 16 ∨ j = 17 by omega) with rfl | rfl | rfl | rfl | rfl | rfl | rfl | rfl | rfl | rfl | rfl | rfl | rfl | rfl | rfl | rfl | rfl | rfl <;> rfl
  · cases hvar
theorem cells3 : Tryd.prog.cellsOf 3 = 1 := by kernel_rfl
theorem cells24 : Tryd.prog.cellsOf 24 = 2 := by kernel_rfl
theorem sl_of_trod {H : Type} {enc : TypeId × Value → H} {W : World} {fuel : Nat} {v : Value} {y : DataW H × List MemPlace} (h : DataW.trod enc Tryd.prog W 0 (fun _ => true) true fuel 22 [v] = some y) : ∃ l, Sl W v l ∧ l.length ≤ maxLen := by
  rcases open_ints und22 und3 cells3 h with ⟨hcs, _⟩ | ⟨a, len, cap, zs, hcs, _, hl, hm, hz, _, hcell, _⟩
  · simp only [List.cons.injEq, and_true] at hcs
    subst hcs
    exact ⟨[], Sl.nil W, by simp⟩
  · simp only [List.cons.injEq, and_true] at hcs
    subst hcs
    simp only [if_true] at hz
    have hlen : (zs.take len).length = len := by rw [List.length_take]; omega
    refine ⟨zs.take len, ⟨some a, cap, by rw [hlen], fun j hj => ?_⟩, by omega⟩
    rw [hlen] at hj
    obtain ⟨b, off, rfl, hc⟩ := ints_at hcell (by omega)
    refine ⟨b, off, rfl, ?_⟩
    rw [hc j (by omega)]
    simp [List.getD_eq_getElem?_getD, hj]
set_option maxRecDepth 100000 in
theorem sl_of_trod' {H : Type} {enc : TypeId × Value → H} {W : World} {r : Reach} {b0 : Nat} {v : Value} {d : DataW H} {ps : List MemPlace} (hv : Value.okWide Tryd.prog W r b0 22 v) (h : DataW.Trod enc Tryd.prog W 0 (fun _ => true) true 22 v d ps) : ∃ l, Sl W v l ∧ l.length ≤ maxLen := by
  obtain ⟨a, len, cap, rfl⟩ := okWide_slice und22 hv
  obtain ⟨m, hm⟩ := h
  exact sl_of_trod (fuel := m) (y := (d, ps)) hm
theorem square_open {H : Type} {enc : TypeId × Value → H} {W : World} {r : Reach} {b0 : Nat} {v : Value} {d : DataW H} {ps : List MemPlace} (hv : Value.okWide Tryd.prog W r b0 24 v) (h : DataW.Trod enc Tryd.prog W 0 (fun _ => true) true 24 v d ps) :
    ∃ (s : Int) (u : Value) (l : List Int), v = .agg #[.int .i64 s, u] ∧ Sl W u l ∧ l.length ≤ maxLen := by
  obtain ⟨v0, v1, y0, y1, n, rfl, _, _, h0, h1⟩ := open_agg2 Tryd.underlying24 (by kernel_rfl) cells24 hv h
  obtain ⟨p, e0, _, _⟩ := DataW.trod_int Tryd.underlying3 h0
  simp only [List.cons.injEq, and_true] at e0
  subst e0
  obtain ⟨l, hl, hll⟩ := sl_of_trod h1
  exact ⟨p, v1, l, rfl, hl, hll⟩

end Go.Proofs.YtncnaaohihmjnaaDoor
