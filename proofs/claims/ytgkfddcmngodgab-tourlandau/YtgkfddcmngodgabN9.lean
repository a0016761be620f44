/- The program's longer, walked. -/
import Derived.Test.YtgkfddcmngodgabN8
namespace Go.Proofs.Ytgkfddcmngodgab
open Go.RowKit

/-- Lists as they lie. -/
def LsR (w : World) (v : Value) (Ls : List (List Nat)) : Prop := ∃ a cap, v = .slice a Ls.length cap ∧ ∀ i M, Ls[i]? = some M → ∃ b off u, a = some ⟨b, off, none⟩ ∧ w.cell? ⟨b, off + i, none⟩ = some u ∧ Slc w u M
theorem LsR.below {w w' : World} {v : Value} {Ls : List (List Nat)} (h : LsR w v Ls) (hb : Below w.heap.size w w') : LsR w' v Ls := by
  obtain ⟨a, cap, e, h⟩ := h
  refine ⟨a, cap, e, fun i M hM => ?_⟩
  obtain ⟨b, off, u, e1, e2, e3⟩ := h i M hM
  exact ⟨b, off, u, e1, (hb.cell (World.block_lt_of_cell? _ _ e2)).trans e2, e3.below hb⟩
theorem ORow.slc {w : World} {base : Nat} {u : Value} {M : List Nat} (h : ORow w base u M) (h0 : 0 < M.length) : Slc w u M := by
  have hs := h.sl
  obtain ⟨h1, ⟨_, hz⟩ | ⟨g, cap, cur, e, _, _, hc, _, _, _⟩⟩ := h
  · omega
  · refine .inr ⟨g, 0, cap, e, hc, h0, fun j hj => ?_⟩
    obtain ⟨a, c, e2, hk⟩ := hs
    rw [List.length_map] at e2 hk
    obtain ⟨b', o', e3, k3⟩ := hk j hj
    rw [e] at e2
    cases e2
    cases e3
    rw [← map_getD]
    exact k3
/-- A row with no room behind it, appended to: a new row. -/
theorem run_append_new {P : Program} (w : World) (base : Nat) (t ty e : TypeId) (i : TypeInfo) (z : Value) (bytes : Nat) (ht : P.underlying t = some (.slice e)) (hi : P.info? e = some i) (hz : i.zero = some z)
    (hsize : i.size = 1) (hby : i.bytes = bytes) (hzs : z.cells.size = 1) (b : Addr) (k : Nat) (olds : List Value) (hlo : olds.length = k) (holds : ∀ j v, olds[j]? = some v → w.cell? (b.add j) = some v)
    (a : Addr) (m c : Nat) (news : List Value) (hl : news.length = m) (hnews : ∀ j v, news[j]? = some v → w.cell? (a.add j) = some v) (hm : 0 < m)
    (h63 : k + m ≤ maxLen) (hbytes : (k + m) * bytes ≤ 140737488355328) (hbase : base ≤ w.heap.size) :
    ∃ v' w', (Builtin.append_ #[t, t] ty #[.slice (some b) k k, .slice (some a) m c]).run P w = .ok v' w' ∧ w'.ownsRow base e 1 v' (k + m) (olds ++ news) ∧ w.grownBy w' none := by
  have hsmall : k + m ≤ 9223372036854775807 := by simp only [maxLen] at h63; omega
  have hr := run_append_grow (P := P) w t ty e i z ht hi hz b k k olds (by rw [hsize, hlo, Nat.mul_one]) holds a m c news (by rw [hsize, hl, Nat.mul_one]) hnews (by omega) (by omega) (by rw [hby]; exact growslice_fits (by omega) hbytes)
  have hge := grownCap_ge w (k + m) k e
  have hcm : grownCap w (k + m) k e ≤ maxLen := grownCap_le_maxLen w (k + m) k e h63
  have hlen : (olds ++ news).length = k + m := by rw [List.length_append, hlo, hl]
  refine ⟨_, _, hr, ⟨by rw [hlen, Nat.mul_one], .inr ⟨w.heap.size, _, _, rfl, hbase, heap_alloc_new w.drew _, hge, hcm, ?_, ?_⟩⟩, ⟨rfl, rfl, rfl, by simp, fun j hj _ => heap_alloc_old w.drew _ hj⟩⟩
  · simp only [Array.size_append, List.size_toArray, size_zeroCells, hzs, hlo, hl]
    omega
  · simp only [Array.toList_append, List.append_assoc, Nat.mul_one]
    rw [← List.append_assoc, ← hlen]
    exact List.take_left
/-- What list[:end:end] gives, with one number appended. -/
def FulR (w : World) (v : Value) (M : List Nat) : Prop := (M = [] ∧ v = .slice none 0 0) ∨ ∃ b o, v = .slice (some ⟨b, o, none⟩) M.length M.length ∧ ∀ j, j < M.length → w.cell? ⟨b, o + j, none⟩ = some (.int .i64 ((M.getD j 0 : Nat) : Int))
theorem FulR.alloc {w : World} {v : Value} {M : List Nat} (h : FulR w v M) (o : Obj) : FulR (w.alloc o) v M := by
  rcases h with h | ⟨b, off, e, hc⟩
  · exact .inl h
  · exact .inr ⟨b, off, e, fun j hj => ((balloc w o).cell (World.block_lt_of_cell? _ _ (hc j hj))).trans (hc j hj)⟩
theorem wpList_append_full {w : World} {ops : Array Oper} {rest : List Oper} {o : Oper} {a : Act} {Q : Exit → Act → World → Prop} (hgd : o.guard = none) (s x : Operand)
    (ho : o.op = .call { callee := .builtin .append, args := #[s, x], argTypes := #[22, 22] }) (base : Nat) (v : Value) (M : List Nat) (hs : a.eval s = v) (hf : FulR w v M)
    (ad : Addr) (c y : Nat) (hx : a.eval x = .slice (some ad) 1 c) (hy : w.cell? (ad.add 0) = some (.int .i64 (y : Int))) (hM : M.length ≤ 999) (hbase : base ≤ w.heap.size)
    (h : ∀ v' w', ORow w' base v' (M ++ [y]) → w.grownBy w' none → wpList Try.prog ops Q rest (a.put o.dst v') w') : wpList Try.prog ops Q (o :: rest) a w := by
  obtain ⟨i3, ki3, kz0, kz1, kz2⟩ := info3
  have hnews : ∀ j u, ([.int .i64 (y : Int)] : List Value)[j]? = some u → w.cell? (ad.add j) = some u := fun j u hj => by
    match j, hj with
    | 0, hj => simp at hj; subst hj; exact hy
  have hrow : ∀ {v' : Value} {w' : World}, w'.ownsRow base 3 1 v' (M.length + 1) (nz M ++ [.int .i64 (y : Int)]) → ORow w' base v' (M ++ [y]) := fun {v' w'} h => by
    unfold ORow
    rw [List.length_append]
    have e := nz_more M y
    unfold nz at e h
    rw [e]
    exact h
  rcases hf with ⟨rfl, rfl⟩ | ⟨b, off, rfl, hc⟩
  · exact wpList_append_own w hgd s x 22 ho base 3 i3 (.int .i64 0) 1 8 und22 ki3 kz0 kz1 kz2 rfl (by decide) _ 0 [] hs (World.ownsRow_nil _ _ _ _) ad 1 c [.int .i64 (y : Int)] hx rfl hnews (by intro u hu; simp at hu; subst hu; rfl) (by unfold maxLen; omega) (by omega) hbase fun v' w' h1 h2 _ => h v' w' (hrow h1) h2
  · refine wpList_plain hgd fun _ hK => ?_
    have holds : ∀ j u, (nz M)[j]? = some u → w.cell? ((⟨b, off, none⟩ : Addr).add j) = some u := fun j u hj => by
      have hjl : j < M.length := by have := (List.getElem?_eq_some_iff.1 hj).1; simpa [nz] using this
      rw [Addr.add_lit]
      have e : Value.int .i64 ((M.getD j 0 : Nat) : Int) = u := by
        unfold nz at hj
        rw [List.getElem?_map, List.getElem?_map, List.getElem?_eq_getElem hjl] at hj
        simpa [List.getD_eq_getElem?_getD, hjl] using hj
      rw [← e]
      exact hc j hjl
    obtain ⟨v', w', hr, h2, h3⟩ := run_append_new (P := Try.prog) w base 22 o.type 3 i3 (.int .i64 0) 8 und22 ki3 kz0 kz1 kz2 rfl ⟨b, off, none⟩ M.length (nz M) (by simp [nz]) holds ad 1 c [.int .i64 (y : Int)] rfl hnews (by omega) (by unfold maxLen; omega) (by omega) hbase
    unfold Oper.wp execOp
    simp only [ho, resolve, invoke, builtin, Sem.run_bind, Sem.run_pure, Result.andThen_ok, List.map_toArray, List.map_cons, List.map_nil, hs, hx, hr]
    exact hK _ _ (h v' w' (hrow h2) h3)
theorem own_form22 {w : World} {base n : Nat} {e : TypeId} {v : Value} {xs : List Value} (h : w.ownsRow base e 1 v n xs) : ∃ a c, v = .slice a n c := own_form h
theorem orow_form {w : World} {base : Nat} {u : Value} {M : List Nat} (h : ORow w base u M) : ∃ a k c, u = .slice a k c := by
  obtain ⟨a, c, e⟩ := own_form h
  exact ⟨a, _, c, e⟩
theorem or_low {w : World} {b b' : Nat} {v : Value} {ls : List (List Nat)} (h : OR w b v ls) (hb : b' ≤ b) : OR w b' v ls := by
  obtain ⟨vals, ⟨h0, h1⟩, h2⟩ := h
  refine ⟨vals, ⟨h0, ?_⟩, fun i u l hu hl => own_low' (h2 i u l hu hl) hb⟩
  rcases h1 with h | ⟨g, cap, cur, e, h1, h3⟩
  · exact .inl h
  · exact .inr ⟨g, cap, cur, e, Nat.le_trans hb h1, h3⟩
/-- The rows' values, and what they are. -/
theorem wor_of {w : World} {base k : Nat} {v : Value} {ls : List (List Nat)} (h : OR w base v ls) (hk : ls.length = k) : ∃ vals, w.ownsRow base 22 1 v k vals ∧ ∀ (i : Nat) (u : Value) (l : List Nat), vals[i]? = some u → ls[i]? = some l → ORow w base u l := by
  obtain ⟨vals, h1, h2⟩ := h
  exact ⟨vals, by rw [← hk]; exact h1, h2⟩
theorem lgK_take {n : Nat} {t : Nat → Nat → Bool} {Ls : List (List Nat)} {i : Nat} {M : List Nat} (h : Ls[i]? = some M) : lgK n t (Ls.take (i + 1)) = lgK n t (Ls.take i) ++ stpK t M n := by
  unfold lgK
  rw [List.take_add_one, h, List.flatMap_append]
  simp
set_option maxRecDepth 100000 in
set_option maxHeartbeats 16000000 in
theorem longer_any {n : Nat} {l : List Int} (hg : GoodT n l) (v : Value) (w : World) (hv : Sl w v l) (Ls : List (List Nat)) (lv : Value) (hLs : LsR w lv Ls) (hLl : Ls.length ≤ 387420489) (hM9 : ∀ M ∈ Ls, M.length ≤ 9) (hMn : ∀ M ∈ Ls, ∀ x ∈ M, x < n) :
    Calls Try.prog 22 #[.agg #[.int .i64 (n : Int), v], lv] w fun e w' => (∃ y, e = .returned y ∧ OR w' w.heap.size y (lgK n (tB n l) Ls)) ∧ Below w.heap.size w w' := by
  obtain ⟨i3, ki3, kz0, kz1, kz2⟩ := info3
  obtain ⟨i22, ri, rz0, rz1, rz2⟩ := info36
  have HLV : Hid (∀ W, Below w.heap.size w W → LsR W lv Ls) := fun W b => hLs.below b
  obtain ⟨la, lc, rfl, hrows⟩ := hLs
  have HAT : Hid (∀ i, i < Ls.length → ∃ M, Ls[i]? = some M ∧ M.length ≤ 9 ∧ ∀ x ∈ M, x < n) := fun i hi => ⟨_, List.getElem?_eq_getElem hi, hM9 _ (List.getElem_mem hi), hMn _ (List.getElem_mem hi)⟩
  have hn9 := hg.le
  obtain ⟨t, Ht⟩ : ∃ t, Hid (tB n l = t) := ⟨_, rfl⟩
  rw [Ht.out]
  have CB : ∀ W, Below w.heap.size w W → ∀ a b, a < n → b < n → Calls Try.prog 23 #[.agg #[.int .i64 (n : Int), v], .int .i64 (a : Int), .int .i64 (b : Int)] W fun e w' => e = .returned (.bool (t a b)) ∧ Below W.heap.size W w' := fun W bW a b ha hb => by rw [← Ht.out]; exact beats_any hg.one hg.le hg.len v W (hv.below bW) ha hb
  have CY : ∀ W, Below w.heap.size w W → ∀ M u, Slc W u M → M.length ≤ 9 → (∀ x ∈ M, x < n) → ∀ b, b < n → Calls Try.prog 27 #[.agg #[.int .i64 (n : Int), v], u, .int .i64 (b : Int)] W fun e w' => e = .returned (.bool (mfB t M b)) ∧ Below W.heap.size W w' := fun W bW M u h1 h2 h3 b hb => by rw [← Ht.out]; exact mayFollow_any hg v W (hv.below bW) h1 h2 h3 hb
  have hrow2 : ∀ W, Below w.heap.size w W → ∀ i M, Ls[i]? = some M → ∃ b off u, la = some ⟨b, off, none⟩ ∧ W.cell? ⟨b, off + i, none⟩ = some u ∧ Slc W u M := fun W bW i M hM => by
    obtain ⟨b, off, u, e1, e2, e3⟩ := hrows i M hM
    exact ⟨b, off, u, e1, (bW.cell (World.block_lt_of_cell? _ _ e2)).trans e2, e3.below bW⟩
  have b1 := balloc w (.cells #[.int .i64 (n : Int), v] 24)
  have HX := sq_cells (n : Int) v w
  obtain ⟨w0, Hw0⟩ : ∃ w0, Hid (w.alloc (.cells #[.int .i64 (n : Int), v] 24) = w0) := ⟨_, rfl⟩
  rw [Hw0.out] at b1 HX
  have HX2 : Hid (∀ W, Below w0.heap.size w0 W → W.cell? ⟨w.heap.size, 0, none⟩ = some (.int .i64 (n : Int)) ∧ W.cell? ⟨w.heap.size, 1, none⟩ = some v) := HX
  have HCB : Hid (∀ W, Below w0.heap.size w0 W → ∀ a b, a < n → b < n → Calls Try.prog 23 #[.agg #[.int .i64 (n : Int), v], .int .i64 (a : Int), .int .i64 (b : Int)] W fun e w' => e = .returned (.bool (t a b)) ∧ Below W.heap.size W w') := fun W bW => CB W (Below.next b1 bW)
  have HCY : Hid (∀ W, Below w0.heap.size w0 W → ∀ M u, Slc W u M → M.length ≤ 9 → (∀ x ∈ M, x < n) → ∀ b, b < n → Calls Try.prog 27 #[.agg #[.int .i64 (n : Int), v], u, .int .i64 (b : Int)] W fun e w' => e = .returned (.bool (mfB t M b)) ∧ Below W.heap.size W w') := fun W bW => CY W (Below.next b1 bW)
  have HRW : Hid (∀ W, Below w0.heap.size w0 W → ∀ i M, Ls[i]? = some M → ∃ b off u, la = some ⟨b, off, none⟩ ∧ W.cell? ⟨b, off + i, none⟩ = some u ∧ Slc W u M) := fun W bW => hrow2 W (Below.next b1 bW)
  have HEND : Hid (lgK n t (Ls.take Ls.length) = lgK n t Ls) := by show _ = _; rw [List.take_length]
  obtain ⟨L, HL⟩ : ∃ L, Hid (Ls.length = L) := ⟨_, rfl⟩
  rw [HL.out] at HAT HEND hLl ⊢
  have HB0 : Hid (∀ W, Below w0.heap.size w0 W → Below w.heap.size w W) := fun W b => Below.next b1 b
  have hsz0 : w.heap.size ≤ w0.heap.size := b1.size
  obtain ⟨x0, x1⟩ := HX2.out w0 (Below.refl _ _)
  rw [← Hw0.out] at x0 x1
  have hnt : (!true) = false := rfl
  have hnf : (!false) = true := rfl
  clear HX hv b1 hg CB CY HCB hnt hnf hrows hrow2 hM9 hMn
  go_enter Try.func22, Try.ntmps22
  go_wp2
  rw [Hw0.out]
  go_loopw [5, 12] (fun ov iv wr => ∃ (i k : Nat) (oa : Option Addr) (oc : Nat), iv = .int .i64 (i : Int) ∧ ov = .slice oa k oc ∧ i ≤ L ∧ k ≤ 9 * i ∧ Hid ((lgK n t (Ls.take i)).length = k) ∧ OR wr w0.heap.size (.slice oa k oc) (lgK n t (Ls.take i)) ∧ Below w0.heap.size w0 wr) (fun _ iv _ => (L - intOf iv).toNat)
  case atStart => exact ⟨0, 0, none, 0, rfl, rfl, by omega, by omega, rfl, OR.nil _ _, Below.refl _ _⟩
  case round =>
    clear x0 x1
    obtain ⟨i, k, oa, oc, rfl, rfl, hi, hki, HK, hor, hB⟩ := hrel
    obtain ⟨x0, x1⟩ := HX2.out wr hB
    by_cases hli : i < L
    · have hdi : decide ((i : Int) < (L : Int)) = true := by simp; omega
      have hii : (i : Int) < (L : Int) := by omega
      obtain ⟨M, hM, hM9, hMn⟩ := HAT.out i hli
      have HTK : Hid (lgK n t (Ls.take (i + 1)) = lgK n t (Ls.take i) ++ stpK t M n) := lgK_take hM
      obtain ⟨A, HA⟩ : ∃ A, Hid (lgK n t (Ls.take i) = A) := ⟨_, rfl⟩
      rw [HA.out] at HTK HK hor
      obtain ⟨lb, lo, u, rfl, hcu, hsu⟩ := HRW.out wr hB i M hM
      have HSL : Hid (∀ W, Below w0.heap.size w0 W → Slc W u M) := fun W bW => by
        obtain ⟨b', o', u', e1, e2, e3⟩ := HRW.out W bW i M hM
        cases e1
        obtain ⟨b2, o2, u2, e4, e5, e6⟩ := HRW.out w0 (Below.refl _ _) i M hM
        cases e4
        have f1 := (bW.cell (World.block_lt_of_cell? _ _ e5)).trans e5
        have f2 := (hB.cell (World.block_lt_of_cell? _ _ e5)).trans e5
        rw [e2] at f1
        rw [hcu] at f2
        cases f1
        cases f2
        exact e3
      have HSM : Hid (∀ b, stpK t M (b + 1) = stpK t M b ++ if mfB t M b then [M ++ [b]] else []) := fun b => stpK_more t M b
      have hst0 : stpK t M 0 = [] := rfl
      have HKL : Hid (∀ b, b ≤ n → (stpK t M b).length ≤ b) := fun b _ => stpK_len t M b
      obtain ⟨N, HN⟩ : ∃ N, Hid (M.length = N) := ⟨_, rfl⟩
      have hN9 : N ≤ 9 := by rw [← HN.out]; exact hM9
      rcases hsu with ⟨rfl, rfl⟩ | ⟨ub, uo, uc, rfl, hu1, hu2, hu3⟩
      · go_wp2
        go_loopw [5, 20] (fun ov bv wr => ∃ (b k : Nat) (oa : Option Addr) (oc : Nat), bv = .int .i64 (b : Int) ∧ ov = .slice oa k oc ∧ b ≤ n ∧ k ≤ 9 * i + b ∧ Hid ((A ++ stpK t [] b).length = k) ∧ OR wr w0.heap.size (.slice oa k oc) (A ++ stpK t [] b) ∧ Below w0.heap.size w0 wr) (fun _ bv _ => (n - intOf bv).toNat)
        case atStart => exact ⟨0, k, oa, oc, rfl, rfl, by omega, by omega, (by show _ = _; rw [hst0, List.append_nil]; exact HK.out), by rw [hst0, List.append_nil]; exact hor, hB⟩
        case round =>
          clear x0 x1 hB hor hcu
          obtain ⟨b, k2, oa, oc, rfl, rfl, hb, hk2, HK2, hor, hB⟩ := hrel
          obtain ⟨x0, x1⟩ := HX2.out wr hB
          by_cases hlb : b < n
          · have hdb : decide ((b : Int) < (n : Int)) = true := by simp; omega
            have hbb : (b : Int) < (n : Int) := by omega
            have hsl := HSL.out wr hB
            have HFU : Hid (∀ W, Below w0.heap.size w0 W → FulR W (.slice none 0 0) []) := fun W bW => by
              exact .inl ⟨rfl, rfl⟩
            have C1 := HCY.out wr hB [] _ hsl hM9 hMn b hlb
            have st := HSM.out b
            obtain ⟨p, Hp⟩ : ∃ p, Hid (mfB t [] b = p) := ⟨_, rfl⟩
            rw [Hp.out] at C1 st
            cases p with
            | false =>
              have st2 : stpK t [] (b + 1) = stpK t [] b := by rw [st]; simp
              have HK3 : Hid ((A ++ stpK t [] (b + 1)).length = k2) := by show _ = _; rw [st2]; exact HK2.out
              go_wp2_with (first
                | (go_at_call 27; refine C1.mono ?_; rintro e w5 ⟨rfl, hb5⟩; clear C1; have hB5 := Below.next hB hb5; have hor5 := hor.below hb5)
                | go_in)
              go_roundw
              case rel => exact ⟨b + 1, k2, oa, oc, by go_num, rfl, by omega, by omega, HK3, by rw [st2]; exact hor5, hB5⟩
              case measure => simp [intOf]; omega
            | true =>
              have st2 : A ++ stpK t [] (b + 1) = (A ++ stpK t [] b) ++ [[] ++ [b]] := by rw [st, if_pos rfl, List.append_assoc]
              have HK3 : Hid ((A ++ stpK t [] (b + 1)).length = k2 + 1) := by show _ = _; rw [st2, List.length_append, HK2.out]; rfl
              go_wp2_with (first
                | (go_at_call 27; refine C1.mono ?_; rintro e w5 ⟨rfl, hb5⟩; clear C1; have hB5 := Below.next hB hb5; have hbz := hB5.size; have hor5 := hor.below hb5; have hfu5 := HFU.out w5 hB5)
                | (at_builtin; refine wpList_append_full rfl _ _ rfl w0.heap.size _ [] rfl (hfu5.alloc _) ⟨w5.heap.size, 0, none⟩ 1 b rfl ?c1 (by omega) (by simp; omega) ?_)
                | go_in)
              case c1 => rw [Addr.add_lit, cell_of_row _ _ _ _ _ _ (heap_alloc_new w5 _)]; rfl
              intro u6 w6 hu6 hg6
              obtain ⟨ua6, N6, uc6, rfl⟩ := orow_form hu6
              have hB6 : Below w0.heap.size w0 w6 := (hB5.alloc hbz _).grown hg6 (by simp; omega) (fun k hk => by cases hk)
              have hor6 : OR w6 w0.heap.size (.slice oa k2 oc) (A ++ stpK t [] b) := (hor5.below (balloc w5 _)).keep fun j _ hj => hg6.block j hj (by simp)
              have hbz6 := hB6.size
              obtain ⟨ow, ha⟩ := wor_of (hor6.below (balloc w6 (.cells #[.slice ua6 N6 uc6] 22))) HK2.out
              go_wp2_with (first
                | (at_builtin; refine wpList_append_own _ rfl _ _ 39 rfl w0.heap.size 22 i22 (.slice none 0 0) 1 24 undR ri rz0 rz1 rz2 rfl (by decide) _ _ _ rfl ha.1 ⟨w6.heap.size, 0, none⟩ 1 1 [.slice ua6 N6 uc6] rfl rfl ?c1 ?c2 ?c3 ?c4 ?c5 ?_)
                | go_in)
              case c1 =>
                intro j u hj
                match j, hj with
                | 0, hj => simp at hj; subst hj; simp [Addr.add]
              case c2 =>
                intro u hu
                simp at hu
                subst hu
                rfl
              case c3 => unfold maxLen; omega
              case c4 => omega
              case c5 => simp; omega
              · intro v' w7 hown' hgrow _
                have hb7 : Below w0.heap.size w0 w7 := (hB6.alloc hbz6 _).grown hgrow (by simp; omega) (fun k hk => (ha.1.lt k hk).1)
                have hor7 : OR w7 w0.heap.size v' ((A ++ stpK t [] b) ++ [[] ++ [b]]) := OR.more (wa := w6.alloc (.cells #[.slice ua6 N6 uc6] 22)) (by rw [HK2.out]; exact ha.1) ha.2 (hu6.below (balloc w6 _)) (by rw [HK2.out]; exact hown') hgrow
                obtain ⟨xa, xc, rfl⟩ := own_form22 hown'
                rw [← st2] at hor7
                go_wp2
                go_roundw
                case rel => exact ⟨b + 1, k2 + 1, xa, xc, by go_num, rfl, by omega, by omega, HK3, hor7, hb7⟩
                case measure => simp [intOf]; omega
          · have hdb : decide ((b : Int) < (n : Int)) = false := by simp; omega
            have hdbn : decide (b < n) = false := by simp; omega
            obtain rfl : b = n := by omega
            have HK3 : Hid ((lgK b t (Ls.take (i + 1))).length = k2) := by show _ = _; rw [HTK.out]; exact HK2.out
            go_wp2
            go_roundw
            case rel => exact ⟨i + 1, k2, oa, oc, by go_num, rfl, by omega, by omega, HK3, by rw [HTK.out]; exact hor, hB⟩
            case measure => simp [intOf]; omega
      · rw [HN.out] at hu1 hu2 hcu
        have hu1i : (N : Int) ≤ (uc : Int) := by omega
        have hu0i : (0 : Int) ≤ (N : Int) := by omega
        go_wp2
        go_loopw [5, 20] (fun ov bv wr => ∃ (b k : Nat) (oa : Option Addr) (oc : Nat), bv = .int .i64 (b : Int) ∧ ov = .slice oa k oc ∧ b ≤ n ∧ k ≤ 9 * i + b ∧ Hid ((A ++ stpK t M b).length = k) ∧ OR wr w0.heap.size (.slice oa k oc) (A ++ stpK t M b) ∧ Below w0.heap.size w0 wr) (fun _ bv _ => (n - intOf bv).toNat)
        case atStart => exact ⟨0, k, oa, oc, rfl, rfl, by omega, by omega, (by show _ = _; rw [hst0, List.append_nil]; exact HK.out), by rw [hst0, List.append_nil]; exact hor, hB⟩
        case round =>
          clear x0 x1 hB hor hcu hu3
          obtain ⟨b, k2, oa, oc, rfl, rfl, hb, hk2, HK2, hor, hB⟩ := hrel
          obtain ⟨x0, x1⟩ := HX2.out wr hB
          by_cases hlb : b < n
          · have hdb : decide ((b : Int) < (n : Int)) = true := by simp; omega
            have hbb : (b : Int) < (n : Int) := by omega
            have hsl := HSL.out wr hB
            have HFU : Hid (∀ W, Below w0.heap.size w0 W → FulR W (.slice (some ⟨ub, uo, none⟩) N N) M) := fun W bW => by
              rcases HSL.out W bW with ⟨_, e⟩ | ⟨b', o', c', e, _, _, hc⟩
              · cases e
              · cases e
                exact .inr ⟨ub, uo, by rw [HN.out], hc⟩
            rw [HN.out] at hsl
            have C1 := HCY.out wr hB M _ hsl hM9 hMn b hlb
            have st := HSM.out b
            obtain ⟨p, Hp⟩ : ∃ p, Hid (mfB t M b = p) := ⟨_, rfl⟩
            rw [Hp.out] at C1 st
            cases p with
            | false =>
              have st2 : stpK t M (b + 1) = stpK t M b := by rw [st]; simp
              have HK3 : Hid ((A ++ stpK t M (b + 1)).length = k2) := by show _ = _; rw [st2]; exact HK2.out
              go_wp2_with (first
                | (go_at_call 27; refine C1.mono ?_; rintro e w5 ⟨rfl, hb5⟩; clear C1; have hB5 := Below.next hB hb5; have hor5 := hor.below hb5)
                | go_in)
              go_roundw
              case rel => exact ⟨b + 1, k2, oa, oc, by go_num, rfl, by omega, by omega, HK3, by rw [st2]; exact hor5, hB5⟩
              case measure => simp [intOf]; omega
            | true =>
              have st2 : A ++ stpK t M (b + 1) = (A ++ stpK t M b) ++ [M ++ [b]] := by rw [st, if_pos rfl, List.append_assoc]
              have HK3 : Hid ((A ++ stpK t M (b + 1)).length = k2 + 1) := by show _ = _; rw [st2, List.length_append, HK2.out]; rfl
              go_wp2_with (first
                | (go_at_call 27; refine C1.mono ?_; rintro e w5 ⟨rfl, hb5⟩; clear C1; have hB5 := Below.next hB hb5; have hbz := hB5.size; have hor5 := hor.below hb5; have hfu5 := HFU.out w5 hB5)
                | (at_builtin; refine wpList_append_full rfl _ _ rfl w0.heap.size _ M rfl (hfu5.alloc _) ⟨w5.heap.size, 0, none⟩ 1 b rfl ?c1 (by omega) (by simp; omega) ?_)
                | go_in)
              case c1 => rw [Addr.add_lit, cell_of_row _ _ _ _ _ _ (heap_alloc_new w5 _)]; rfl
              intro u6 w6 hu6 hg6
              obtain ⟨ua6, N6, uc6, rfl⟩ := orow_form hu6
              have hB6 : Below w0.heap.size w0 w6 := (hB5.alloc hbz _).grown hg6 (by simp; omega) (fun k hk => by cases hk)
              have hor6 : OR w6 w0.heap.size (.slice oa k2 oc) (A ++ stpK t M b) := (hor5.below (balloc w5 _)).keep fun j _ hj => hg6.block j hj (by simp)
              have hbz6 := hB6.size
              obtain ⟨ow, ha⟩ := wor_of (hor6.below (balloc w6 (.cells #[.slice ua6 N6 uc6] 22))) HK2.out
              go_wp2_with (first
                | (at_builtin; refine wpList_append_own _ rfl _ _ 39 rfl w0.heap.size 22 i22 (.slice none 0 0) 1 24 undR ri rz0 rz1 rz2 rfl (by decide) _ _ _ rfl ha.1 ⟨w6.heap.size, 0, none⟩ 1 1 [.slice ua6 N6 uc6] rfl rfl ?c1 ?c2 ?c3 ?c4 ?c5 ?_)
                | go_in)
              case c1 =>
                intro j u hj
                match j, hj with
                | 0, hj => simp at hj; subst hj; simp [Addr.add]
              case c2 =>
                intro u hu
                simp at hu
                subst hu
                rfl
              case c3 => unfold maxLen; omega
              case c4 => omega
              case c5 => simp; omega
              · intro v' w7 hown' hgrow _
                have hb7 : Below w0.heap.size w0 w7 := (hB6.alloc hbz6 _).grown hgrow (by simp; omega) (fun k hk => (ha.1.lt k hk).1)
                have hor7 : OR w7 w0.heap.size v' ((A ++ stpK t M b) ++ [M ++ [b]]) := OR.more (wa := w6.alloc (.cells #[.slice ua6 N6 uc6] 22)) (by rw [HK2.out]; exact ha.1) ha.2 (hu6.below (balloc w6 _)) (by rw [HK2.out]; exact hown') hgrow
                obtain ⟨xa, xc, rfl⟩ := own_form22 hown'
                rw [← st2] at hor7
                go_wp2
                go_roundw
                case rel => exact ⟨b + 1, k2 + 1, xa, xc, by go_num, rfl, by omega, by omega, HK3, hor7, hb7⟩
                case measure => simp [intOf]; omega
          · have hdb : decide ((b : Int) < (n : Int)) = false := by simp; omega
            have hdbn : decide (b < n) = false := by simp; omega
            obtain rfl : b = n := by omega
            have HK3 : Hid ((lgK b t (Ls.take (i + 1))).length = k2) := by show _ = _; rw [HTK.out]; exact HK2.out
            go_wp2
            go_roundw
            case rel => exact ⟨i + 1, k2, oa, oc, by go_num, rfl, by omega, by omega, HK3, by rw [HTK.out]; exact hor, hB⟩
            case measure => simp [intOf]; omega
    · have hdi : decide ((i : Int) < (L : Int)) = false := by simp; omega
      have hdin : decide (i < L) = false := by simp; omega
      obtain rfl : i = L := by omega
      go_wp2
      go_ret
      exact ⟨⟨_, rfl, by rw [← HEND.out]; exact or_low hor hsz0⟩, HB0.out _ hB⟩
end Go.Proofs.Ytgkfddcmngodgab
