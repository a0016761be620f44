/- The document's GrayOf, walked. -/
import Derived.Test.YtcjkcgfohmhbcaaW3
import Derived.Deep.RegionLaw
import Derived.Deep.QuietTactic
import Derived.BigQuiet
namespace Go.Proofs.Ytcjkcgfohmhbcaa
open Go.RowKit

/-- An append onto a row of the call's own, as one step of a region that draws its order. -/
theorem step_append_own {P : Program} {ops : Array Oper} {o : Oper} {a : Act} {w : World} {K : Act → World → Prop} {Q : Exit → Act → World → Prop} {E : Prop}
    (hg : o.guard = none) (s x : Operand) (t : TypeId) (hop : o.op = Op.call { callee := Callee.builtin Builtin.append, args := #[s, x], argTypes := #[t, t] })
    (base : Nat) (e : TypeId) (i : TypeInfo) (z : Value) (size bytes : Nat) (h1 : P.underlying t = some (.slice e)) (h2 : P.info? e = some i) (h3 : i.zero = some z) (h4 : i.size = size) (h5 : i.bytes = bytes) (h6 : z.cells.size = size) (h7 : 0 < size)
    (v : Value) (k : Nat) (xs : List Value) (hs : a.eval s = v) (hown : w.ownsRow base e size v k xs) (ad : Addr) (m c : Nat) (news : List Value) (hx : a.eval x = .slice (some ad) m c) (hn : news.length = m * size)
    (hc : ∀ j u, news[j]? = some u → w.cell? (ad.add j) = some u) (h1c : ∀ u ∈ news, u.oneCell' = true) (b1 : k + m ≤ maxLen) (b2 : (k + m) * bytes ≤ 140737488355328) (b3 : base ≤ w.heap.size)
    (hK : ∀ v' w', w'.ownsRow base e size v' (k + m) (xs ++ news) → w.grownBy w' v.ownBlock → K (a.put o.dst v') w') :
    if Region.wanted o (yielded ops a.tmps) = true then Oper.wp P o a w K Q else E := by
  have hw : Region.wanted o (yielded ops a.tmps) = true := by simp [Region.wanted, hg]
  rw [if_pos hw]
  obtain ⟨v', w', hrun, r1, r2, _⟩ := run_append_own (P := P) w base t o.type e i z size bytes h1 h2 h3 h4 h5 h6 h7 v k xs hown ad m c news hn hc h1c b1 b2 b3
  unfold Oper.wp
  unfold execOp
  simp only [hop, resolve, invoke, builtin, Sem.run_bind, Sem.run_pure, Result.andThen_ok, List.map_toArray, List.map_cons, List.map_nil, hs, hx, hrun]
  exact hK _ _ r1 r2
theorem newCell (w : World) (x : Int) : ∀ j u, ([.int .i64 x] : List Value)[j]? = some u → (w.alloc (.cells #[.int .i64 x] 3)).drew.cell? ((⟨w.heap.size, 0, none⟩ : Addr).add j) = some u := fun j u hj => by
  match j, hj with
  | 0, hj => simp at hj; subst hj; simp [Addr.add]
theorem own_cells {w : World} {base n : Nat} {v : Value} {L : List Nat} (h : w.ownsRow base 3 1 v n (nz L)) (h0 : 0 < n) : ∃ g cap, v = .slice (some ⟨g, 0, none⟩) n cap ∧ base ≤ g ∧ n = L.length ∧ ∀ j, j < n → w.cell? ⟨g, j, none⟩ = some (.int .i64 ((L.getD j 0 : Nat) : Int)) := by
  have hl : n = L.length := by have := h.1; simp [nz] at this; omega
  obtain ⟨g, cap, rfl, hb, cur, hg, hc⟩ := Own.of (l := L.map Int.ofNat) h h0
  exact ⟨g, cap, rfl, hb, hl, fun j hj => by rw [cell_of_row _ _ _ _ _ _ hg, hc j hj]; show some (Value.int .i64 ((L.map Int.ofNat).getD j 0)) = _; rw [nat_at]⟩
/-- Gray's numbers. -/
def grL : Nat → List Nat
  | 0 => [0]
  | i + 1 => grL i ++ (grL i).reverse.map fun x => x + 2 ^ i
theorem grL_len : ∀ i, (grL i).length = 2 ^ i
  | 0 => rfl
  | i + 1 => by
    unfold grL
    rw [List.length_append, List.length_map, List.length_reverse, grL_len i, Nat.pow_succ]
    omega
theorem grL_lt : ∀ i, ∀ x ∈ grL i, x < 2 ^ i
  | 0, x, h => by simp [grL] at h; subst h; decide
  | i + 1, x, h => by
    unfold grL at h
    rw [Nat.pow_succ]
    rcases List.mem_append.1 h with h | h
    · have := grL_lt i x h; omega
    · obtain ⟨y, hy, rfl⟩ := List.mem_map.1 h
      have := grL_lt i y (List.mem_reverse.1 hy)
      omega
/-- So many of the other half laid. -/
def grS (i m : Nat) : List Nat := grL i ++ ((grL i).reverse.take m).map fun x => x + 2 ^ i
theorem grS_zero (i : Nat) : grS i 0 = grL i := by unfold grS; simp
theorem grS_all (i : Nat) : grS i (2 ^ i) = grL (i + 1) := by
  unfold grS
  rw [List.take_of_length_le (by rw [List.length_reverse, grL_len]; exact Nat.le_refl _)]
  rfl
theorem grS_len {i m : Nat} (h : m ≤ 2 ^ i) : (grS i m).length = 2 ^ i + m := by
  unfold grS
  rw [List.length_append, List.length_map, List.length_take, List.length_reverse, grL_len]
  omega
theorem grS_more {i m : Nat} (h : m < 2 ^ i) : grS i (m + 1) = grS i m ++ [(grL i).getD (2 ^ i - 1 - m) 0 + 2 ^ i] := by
  unfold grS
  have hl : m < (grL i).reverse.length := by rw [List.length_reverse, grL_len]; exact h
  rw [List.take_add_one, List.getElem?_eq_getElem hl, List.map_append, List.append_assoc, List.getElem_reverse]
  have h2 : 2 ^ i - 1 - m < (grL i).length := by rw [grL_len]; omega
  rw [List.getD_eq_getElem?_getD, List.getElem?_eq_getElem h2]
  simp [grL_len]
theorem grS_at {i m j : Nat} (h : j < 2 ^ i) : (grS i m).getD j 0 = (grL i).getD j 0 := by
  unfold grS
  rw [List.getD_eq_getElem?_getD, List.getD_eq_getElem?_getD, List.getElem?_append_left (by rw [grL_len]; exact h)]
def grE (n : Int) : Nat := if n < 0 ∨ 12 < n then 1 else 0
def grZ (n : Int) : List Nat := if n < 0 ∨ 12 < n then [] else grL n.toNat
set_option maxRecDepth 100000 in
set_option maxHeartbeats 8000000 in
theorem GrayOf_any (nn : Int) (w : World) :
    Calls Try.prog 10 #[.int .i64 nn] w fun e w' => (∃ y, e = .returned (.tuple #[y, .int .i64 (grE nn : Int)]) ∧ ORow w' w.heap.size y (grZ nn)) ∧ Below w.heap.size w w' := by
  obtain ⟨i3, ki3, kz0, kz1, kz2⟩ := info3
  by_cases hb : nn < 0 ∨ 12 < nn
  · have e1 : grE nn = 1 := by unfold grE; rw [if_pos hb]
    have e2 : grZ nn = [] := by unfold grZ; rw [if_pos hb]
    rw [e1, e2]
    by_cases h0 : nn < 0
    · have hd : decide (nn < 0) = true := by simpa using h0
      clear hb
      go_enter Try.func10, Try.ntmps10
      go_wp2
      go_ret2
      exact ⟨⟨_, rfl, World.ownsRow_nil _ _ _ _⟩, Below.refl _ _⟩
    · have hd : decide (nn < 0) = false := by simpa using h0
      have hd2 : decide (12 < nn) = true := by simp; omega
      clear hb
      go_enter Try.func10, Try.ntmps10
      go_wp2
      go_ret2
      exact ⟨⟨_, rfl, World.ownsRow_nil _ _ _ _⟩, Below.refl _ _⟩
  · obtain ⟨n, rfl⟩ : ∃ n : Nat, nn = n := ⟨nn.toNat, by omega⟩
    have e1 : grE n = 0 := by unfold grE; rw [if_neg hb]
    have e2 : grZ n = grL n := by unfold grZ; rw [if_neg hb, Int.toNat_natCast]
    rw [e1, e2]
    have hn12 : n ≤ 12 := by omega
    have hd : decide ((n : Int) < 0) = false := by simp
    have hd2 : decide ((12 : Int) < (n : Int)) = false := by simp; omega
    have hl0 : (w.alloc (.cells #[.int .i64 0] 3)).ownsRow w.heap.size 3 1 (.slice (some ⟨w.heap.size, 0, none⟩) 1 1) 1 (nz [0]) := ⟨rfl, .inr ⟨w.heap.size, 1, #[.int .i64 0], rfl, Nat.le_refl _, heap_alloc_new w _, by omega, by unfold maxLen; omega, rfl, rfl⟩⟩
    have hb0 := balloc w (.cells #[.int .i64 0] 3)
    clear hb e1 e2
    go_enter Try.func10, Try.ntmps10
    go_wp2
    go_loopw [4, 5] (fun lv iv wr => ∃ (i N : Nat) (oc : Option Addr) (cc : Nat), iv = .int .i64 (i : Int) ∧ lv = .slice oc N cc ∧ i ≤ n ∧ Hid (2 ^ i = N) ∧ wr.ownsRow w.heap.size 3 1 (.slice oc N cc) N (nz (grL i)) ∧ Below w.heap.size w wr) (fun _ iv _ => (n - intOf iv).toNat)
    case atStart => exact ⟨0, 1, _, _, rfl, rfl, by omega, rfl, hl0, hb0⟩
    case round =>
      clear hl0 hb0
      obtain ⟨i, N, oc, cc, rfl, rfl, hi, HN, hown, hB⟩ := hrel
      by_cases hlt : i < n
      · have hdi : decide ((i : Int) < (n : Int)) = true := by simp; omega
        have hii : (i : Int) < (n : Int) := by omega
        have hN : N ≤ 4096 := by
          rw [← HN.out]
          exact Nat.le_trans (Nat.pow_le_pow_right (n := 2) (by decide) (show i ≤ 12 by omega)) (by decide)
        have hN1 : 1 ≤ N := by rw [← HN.out]; exact Nat.one_le_two_pow
        have hTi : (2 : Int) ^ i = (N : Int) := by rw [← HN.out]; simp
        have HSM : Hid (∀ m, m < N → grS i (m + 1) = grS i m ++ [(grL i).getD (N - 1 - m) 0 + N]) := fun m hm => by
          have := grS_more (i := i) (m := m) (by rw [HN.out]; exact hm)
          rw [HN.out] at this; exact this
        have HAT : Hid (∀ m j, j < N → (grS i m).getD j 0 = (grL i).getD j 0) := fun m j hj => grS_at (by rw [HN.out]; exact hj)
        have HALL : Hid (grS i N = grL (i + 1)) := by show _ = _; rw [← HN.out]; exact grS_all i
        have HLT : Hid (∀ j, j < N → (grL i).getD j 0 ≤ 4096) := fun j hj => by
          have := grL_lt i ((grL i).getD j 0) (by rw [List.getD_eq_getElem?_getD, List.getElem?_eq_getElem (by rw [grL_len, HN.out]; exact hj)]; exact List.getElem_mem _)
          rw [HN.out] at this
          omega
        have hNm : IntKind.i64.wrap ((N : Int) - 1) = (N : Int) - 1 := IntWalk.i64_in _ (by omega)
        have hi64 : i < 64 := by omega
        have hNw : IntKind.i64.wrap (N : Int) = (N : Int) := IntWalk.i64_in _ (by omega)
        go_wp2
        go_loopw [4, 6] (fun lv jv wr => ∃ (m : Nat) (oc : Option Addr) (cc : Nat), jv = .int .i64 ((N : Int) - 1 - (m : Int)) ∧ lv = .slice oc (N + m) cc ∧ m ≤ N ∧ wr.ownsRow w.heap.size 3 1 (.slice oc (N + m) cc) (N + m) (nz (grS i m)) ∧ Below w.heap.size w wr) (fun _ jv _ => (intOf jv + 1).toNat)
        case atStart => exact ⟨0, oc, cc, by simp, rfl, by omega, by rw [grS_zero]; exact hown, hB⟩
        case round =>
          clear hown hB
          obtain ⟨m, oc, cc, rfl, rfl, hm, hown, hB⟩ := hrel
          have hbz := hB.size
          by_cases hlm : m < N
          · have hdm : decide ((0 : Int) ≤ (N : Int) - 1 - (m : Int)) = true := by simp; omega
            obtain ⟨j, Hj⟩ : ∃ j, Hid (N - 1 - m = j) := ⟨_, rfl⟩
            have ej : (N : Int) - 1 - (m : Int) = (j : Int) := by have := Hj.out; omega
            have hjl : j < N := by have := Hj.out; omega
            obtain ⟨g, cap, e, hgb, _, hcell⟩ := own_cells hown (by omega)
            cases e
            have hcj := hcell j (by omega)
            rw [HAT.out m j hjl] at hcj
            have hx4 := HLT.out j hjl
            have hsm := HSM.out m hlm
            rw [Hj.out] at hsm
            obtain ⟨x, Hx⟩ : ∃ x, Hid ((grL i).getD j 0 = x) := ⟨_, rfl⟩
            rw [Hx.out] at hcj hx4 hsm
            have HA : Hid (nz (grS i (m + 1)) = nz (grS i m) ++ [.int .i64 ((x : Int) + (N : Int))]) := by show _ = _; rw [hsm, nz_more]; simp
            have hj0 : (0 : Int) ≤ (j : Int) := by omega
            have hjN : (j : Int) < ((N + m : Nat) : Int) := by omega
            have hxN : IntKind.i64.wrap ((x : Int) + (N : Int)) = (x : Int) + (N : Int) := IntWalk.i64_in _ (by omega)
            obtain ⟨q, Hq⟩ : ∃ q, Hid (N + m = q) := ⟨_, rfl⟩
            rw [Hq.out] at hown hjN
            have hq9 : q ≤ 9999 := by have := Hq.out; omega
            rw [ej] at hdm ⊢
            rw [Hq.out]
            clear hcell hsm
            go_wp2
            go_region_law (refine step_append_own rfl (.tmp 26) (.tmp 34) 22 rfl w.heap.size 3 i3 (.int .i64 0) 1 8 und22 ki3 kz0 kz1 kz2 rfl (by decide) _ q _ (by simp [Act.eval]) (hown.alloc _) ⟨wr.heap.size, 0, none⟩ 1 1 [.int .i64 ((x : Int) + (N : Int))] (by simp [Act.eval]) rfl (newCell wr _) (by simp [Value.oneCell']) (by unfold maxLen; omega) (by omega) (by simp; omega) ?_; intro v' w4 hown' hgrow)
            all_goals
              have hb1' : Below w.heap.size w w4 := ((hB.alloc hbz _).drew).grown hgrow (by simp; omega) (fun k hk => (hown.lt k hk).1)
              rw [← HA.out] at hown'
              obtain ⟨xa, xc, rfl⟩ := own_form hown'
              have hq1 : q + 1 = N + (m + 1) := by have := Hq.out; omega
              rw [hq1] at hown' ⊢
              go_wp2
              go_roundw
              case rel => exact ⟨m + 1, xa, xc, by rw [← ej]; congr 1; omega, rfl, by omega, hown', hb1'⟩
              case measure => (simp [intOf]; try omega)
          · have hdm : decide ((0 : Int) ≤ (N : Int) - 1 - (m : Int)) = false := by simp; omega
            obtain rfl : m = N := by omega
            rw [HALL.out] at hown
            have HN2 : Hid (2 ^ (i + 1) = m + m) := by show _ = _; rw [Nat.pow_succ, HN.out]; omega
            go_wp2
            go_roundw
            case rel => exact ⟨i + 1, m + m, oc, cc, by go_num, rfl, by omega, HN2, hown, hB⟩
            case measure => simp [intOf]; omega
      · have hdi : decide ((i : Int) < (n : Int)) = false := by simp; omega
        obtain rfl : i = n := by omega
        go_wp2
        go_ret2
        exact ⟨⟨_, rfl, by unfold ORow; rw [grL_len, HN.out]; exact hown⟩, hB⟩
end Go.Proofs.Ytcjkcgfohmhbcaa
