/- The walks of the document's Lies (at any length), Golomb and SidonOf. -/
import Derived.Test.YtmiinhbffiodmaaRuD
import Derived.Test.YtmiinhbffiodmaaB1
namespace Go.Proofs.Ytmiinhbffiodmaa
open Go.RowKit

theorem ownK {w w' : World} {base n : Nat} {e : TypeId} {v : Value} {xs : List Value} (h : w.ownsRow base e 1 v n xs) (k : ∀ b, base ≤ b → b < w.heap.size → w'.heap[b]? = w.heap[b]?) : w'.ownsRow base e 1 v n xs := by
  obtain ⟨h3, h4 | ⟨g, cap, cur, h5, h6, h7, h8⟩⟩ := h
  · exact ⟨h3, .inl h4⟩
  · exact ⟨h3, .inr ⟨g, cap, cur, h5, h6, (k g h6 (Array.getElem?_eq_some_iff.1 h7).1).trans h7, h8⟩⟩
theorem own_form {w : World} {base n : Nat} {e : TypeId} {v : Value} {xs : List Value} (h : w.ownsRow base e 1 v n xs) : ∃ a c, v = .slice a n c := by
  obtain ⟨_, ⟨rfl, h0⟩ | ⟨g, cap, cur, rfl, _⟩⟩ := h
  · exact ⟨_, _, by rw [h0]⟩
  · exact ⟨_, _, rfl⟩
theorem contZ_get {b : List Int} {x : Int} {j : Nat} (hj : j < b.length) (e : b.getD j 0 = x) : b.contains x = true := by
  rw [List.contains_iff_mem, ← e, List.getD_eq_getElem?_getD, List.getElem?_eq_getElem hj]
  exact List.getElem_mem hj
theorem contZ_no {b : List Int} {x : Int} (h : ∀ j, j < b.length → b.getD j 0 ≠ x) : b.contains x = false := by
  rw [Bool.eq_false_iff]
  intro k
  obtain ⟨j, hj, e⟩ := List.mem_iff_getElem.1 (List.contains_iff_mem.1 k)
  refine h j hj ?_
  rw [List.getD_eq_getElem?_getD, List.getElem?_eq_getElem hj]
  exact e
set_option maxHeartbeats 4000000 in
theorem LiesZ_any (b : List Int) (x : Int) (q : Bool) (v : Value) (w : World) (hv : Sl w v b) (hb : b.length ≤ 100000) (hq : b.contains x = q) :
    Calls Try.prog 17 #[v, .int .i64 x] w fun e w' => e = .returned (.bool q) ∧ w' = w := by
  obtain ⟨a, cap, rfl, hc⟩ := hv
  have HC : Hid (∀ j, j < b.length → ∃ b' off, a = some ⟨b', off, none⟩ ∧ w.cell? ⟨b', off + j, none⟩ = some (.int .i64 (b.getD j 0))) := hc
  have HQ : Hid (b.contains x = q) := hq
  have HN : Hid ((∀ j, j < b.length → b.getD j 0 ≠ x) → b.contains x = false) := contZ_no
  have HY : Hid (∀ j, j < b.length → b.getD j 0 = x → b.contains x = true) := fun j hj e => contZ_get hj e
  generalize hn : b.length = n at *
  clear hc hq
  go_enter Try.func17, Try.ntmps17
  go_wp2
  go_loopw [5] (fun i wr => ∃ j : Nat, i = .int .i64 (j : Int) ∧ j ≤ n ∧ Hid (∀ m, m < j → b.getD m 0 ≠ x) ∧ wr = w) (fun i _ => (n - intOf i).toNat)
  case atStart => exact ⟨0, rfl, by omega, (show ∀ m, m < 0 → _ from fun m h => by omega), rfl⟩
  case round =>
    obtain ⟨j, rfl, hj, HJ, hw⟩ := hrel
    subst hw
    by_cases hlt : j < n
    · have hdj : decide ((j : Int) < (n : Int)) = true := by simp; omega
      have hji : (j : Int) < n := by omega
      obtain ⟨b', off, rfl, hcell⟩ := HC.out j hlt
      by_cases he : b.getD j 0 = x
      · obtain rfl : q = true := by rw [← HQ.out]; exact HY.out j hlt he
        rw [he] at hcell
        have e1 : (x == x) = true := by simp
        clear he
        go_wp2
        go_ret
        exact ⟨rfl, rfl⟩
      · have hne : (b.getD j 0 == x) = false := beq_eq_false_iff_ne.2 he
        have HJ2 : Hid (∀ m, m < j + 1 → b.getD m 0 ≠ x) := fun m hm => by
          by_cases e : m = j
          · subst e; exact he
          · exact HJ.out m (by omega)
        obtain ⟨X, hX⟩ : ∃ X : Int, X = b.getD j 0 := ⟨_, rfl⟩
        rw [← hX] at hcell hne
        clear he HJ hX
        go_wp2
        go_roundw
        case rel => exact ⟨j + 1, by go_num, by omega, HJ2, by first | rfl | trivial⟩
        case measure => simp [intOf]; omega
    · have hdj : decide ((j : Int) < (n : Int)) = false := by simp; omega
      obtain rfl : j = n := by omega
      obtain rfl : q = false := by rw [← HQ.out]; exact HN.out HJ.out
      go_wp2
      go_ret
      exact ⟨rfl, rfl⟩
theorem un_no {f : Nat → Nat → Int} {n i j : Nat} (hj : j < i) (hi : i < n) (h : f i j ∈ prP f i j) : ¬ Unl f n := fun hu => by
  unfold prP at h
  rcases List.mem_append.1 h with h | h
  · obtain ⟨k, m, hm, hk, e⟩ := prL_mem.1 h
    have := (hu k m i j hm (by omega) hj hi e).1
    omega
  · obtain ⟨m, hm, e⟩ := List.mem_map.1 h
    have hm' := List.mem_range.1 hm
    have := (hu i m i j (by omega) hi hj hi e).2
    omega
theorem un_yes {f : Nat → Nat → Int} {i j : Nat} (h : (prP f i j).Nodup) (hn : f i j ∉ prP f i j) : (prP f i (j + 1)).Nodup := by
  rw [prP_next, List.nodup_append]
  exact ⟨h, by simp, fun a ha b hb => by rw [List.mem_singleton.1 hb]; exact fun e => hn (e ▸ ha)⟩
theorem prP_len {f : Nat → Nat → Int} {i j n : Nat} (hi : i ≤ n) (hj : j ≤ n) : (prP f i j).length ≤ n * n + n := by
  unfold prP
  rw [List.length_append, List.length_map, List.length_range]
  have h1 := prL_len f i
  have h2 : i * i ≤ n * n := Nat.mul_le_mul hi hi
  omega
set_option maxRecDepth 100000 in
set_option maxHeartbeats 8000000 in
theorem Golomb_any (l : List Nat) (u : Value) (w : World) (hu : Sl w u (l.map Int.ofNat)) (h60 : l.length ≤ 60) (hb : ∀ x ∈ l, x ≤ 1000000000) :
    Calls Try.prog 7 #[u] w fun e w' => e = .returned (.bool (golB l)) ∧ Below w.heap.size w w' := by
  obtain ⟨i3, hi3, hz0, hz1, hz2⟩ := info3
  obtain ⟨a, ca, rfl, hA⟩ := sl_at hu
  obtain ⟨g, Hg⟩ : ∃ g, Hid (w.heap.size = g) := ⟨_, rfl⟩
  have HA : Hid (∀ i, i < l.length → ∃ b off, a = some ⟨b, off, none⟩ ∧ ∀ W, Below g w W → W.cell? ⟨b, off + i, none⟩ = some (.int .i64 ((l.getD i 0 : Nat) : Int))) := fun i hi => by
    obtain ⟨b, o, e, hc⟩ := hA i hi
    exact ⟨b, o, e, fun W bW => (bW.cell (by rw [← Hg.out]; exact World.block_lt_of_cell? _ _ hc)).trans hc⟩
  have HV : Hid (∀ i, i < l.length → l.getD i 0 ≤ 1000000000) := fun i hi => by
    rw [List.getD_eq_getElem?_getD, List.getElem?_eq_getElem hi]; exact hb _ (List.getElem_mem hi)
  obtain ⟨f, Hf⟩ : ∃ f : Nat → Nat → Int, Hid (∀ i j, gdF l i j = f i j) := ⟨gdF l, fun _ _ => rfl⟩
  have hfe : gdF l = f := by funext i j; exact Hf.out i j
  have HI : Hid (golB l = true ↔ Unl f (l.length)) := by rw [← hfe]; exact golB_iff
  have HX : Hid (∀ i j, i < l.length → j < i → f i j = (l.getD i 0 : Int) - (l.getD j 0 : Int)) := fun i j _ _ => by rw [← hfe]; rfl
  obtain ⟨r, Hr⟩ : ∃ r, Hid (golB l = r) := ⟨_, rfl⟩
  rw [Hr.out] at HI ⊢
  have HNo : Hid (∀ i j, i < l.length → j < i → f i j ∈ prP f i j → r = false) := fun i j hi hj h => by
    rw [Bool.eq_false_iff]
    exact fun e => un_no (n := l.length) hj (by omega) h (HI.out.1 e)
  have HYe : Hid ((prP f (l.length) 0).Nodup → r = true) := fun h => HI.out.2 (prL_nodup.1 (by rw [← prP_zero]; exact h))
  have HSt : Hid (∀ i j, (prP f i j).Nodup → f i j ∉ prP f i j → (prP f i (j + 1)).Nodup) := fun i j h1 h2 => un_yes h1 h2
  have HNx : Hid (∀ i j, prP f i (j + 1) = prP f i j ++ [f i j]) := prP_next f
  have HRw : Hid (∀ i, prP f i i = prP f (i + 1) 0) := prP_row f
  have HLn : Hid (∀ i j, i ≤ 61 → j ≤ 61 → (prP f i j).length ≤ 4000) := fun i j h1 h2 => Nat.le_trans (prP_len h1 h2) (by decide)
  have H0 : Hid ((prP f 0 0).Nodup ∧ prP f 0 0 = []) := by rw [prP_zero]; exact ⟨by simp [prL], rfl⟩
  have H1 : Hid ((prP f 1 0).Nodup ∧ prP f 1 0 = []) := by rw [prP_zero]; exact ⟨by simp [prL, List.range_succ], by simp [prL, List.range_succ]⟩
  have HZ : Hid (∀ (ds : List Int) (x : Int) (q : Bool) (dv : Value) (W : World), Sl W dv ds → ds.length ≤ 100000 → ds.contains x = q → Calls Try.prog 17 #[dv, .int .i64 x] W fun e w' => e = .returned (.bool q) ∧ w' = W) := fun ds x q dv W h1 h2 h3 => LiesZ_any ds x q dv W h1 h2 h3
  rw [Hg.out]
  have hgw : w.heap.size = g := Hg.out
  generalize l.length = n at *
  clear hu hA hb HI hfe Hf
  go_enter Try.func7, Try.ntmps7
  go_wp2
  go_loopw [3, 4] (fun dv iv wr => ∃ (i : Nat), iv = .int .i64 (i : Int) ∧ i ≤ n ∧ Hid ((prP f i 0).Nodup) ∧ wr.ownsRow g 3 1 dv (prP f i 0).length ((prP f i 0).map (Value.int .i64)) ∧ Below g w wr) (fun _ iv _ => (n - intOf iv).toNat)
  case atStart => exact ⟨0, rfl, by omega, H0.out.1, by rw [H0.out.2]; exact World.ownsRow_nil _ _ _ _, by rw [← hgw]; exact Below.refl _ _⟩
  case round =>
    clear H0 H1
    obtain ⟨i, rfl, hi, HD, hown, hB⟩ := hrel
    by_cases hlt : i < n
    · have hii : (i : Int) < n := by omega
      have hdec : decide ((i : Int) < n) = true := by simp; omega
      obtain ⟨b1, o1, rfl, c1⟩ := HA.out i hlt
      have hxv := HV.out i hlt
      have HX1 : Hid (∀ j, j < i → f i j = (l.getD i 0 : Int) - (l.getD j 0 : Int)) := fun j hj => HX.out i j hlt hj
      obtain ⟨x, hx⟩ : ∃ x, l.getD i 0 = x := ⟨_, rfl⟩
      rw [hx] at c1 hxv HX1
      have HC1 : Hid (∀ W, Below g w W → W.cell? ⟨b1, o1 + i, none⟩ = some (.int .i64 (x : Int))) := c1
      have HNo1 : Hid (∀ j, j < i → f i j ∈ prP f i j → r = false) := fun j hj h => HNo.out i j hlt hj h
      have HR1 := HRw.out i
      have HR2 : Hid (prP f i i = prP f (i + 1) 0) := HR1
      clear hx c1 HX HNo HYe HRw HR1
      go_wp2
      go_loopw [3, 5] (fun dv jv wr => ∃ (j : Nat), jv = .int .i64 (j : Int) ∧ j ≤ i ∧ Hid ((prP f i j).Nodup) ∧ wr.ownsRow g 3 1 dv (prP f i j).length ((prP f i j).map (Value.int .i64)) ∧ Below g w wr) (fun _ jv _ => (i - intOf jv).toNat)
      case atStart => exact ⟨0, rfl, by omega, HD, hown, hB⟩
      case round =>
        clear HD hown hB
        obtain ⟨j, rfl, hj, HD, hown, hB⟩ := hrel
        have hgs : g ≤ wr.heap.size := by rw [← hgw]; exact hB.size
        by_cases hlj : j < i
        · have hjj : (j : Int) < i := by omega
          have hdej : decide ((j : Int) < i) = true := by simp; omega
          have hjn : (j : Int) < n := by omega
          obtain ⟨b2, o2, e2, c2⟩ := HA.out j (by omega)
          obtain ⟨rfl, rfl⟩ : b1 = b2 ∧ o1 = o2 := by
            simp only [Option.some.injEq, Addr.mk.injEq] at e2
            exact ⟨e2.1, e2.2.1⟩
          have hyv := HV.out j (by omega)
          have hfx := HX1.out j hlj
          have hno := HNo1.out j hlj
          have hst := HSt.out i j HD.out
          have hnx := HNx.out i j
          have hln := HLn.out i j (by omega) (by omega)
          have k1 := HC1.out _ hB
          have k2 := c2 _ hB
          obtain ⟨y, hy⟩ : ∃ y, l.getD j 0 = y := ⟨_, rfl⟩
          rw [hy] at k2 hyv hfx
          obtain ⟨z, Hz⟩ : ∃ z : Int, Hid ((x : Int) - (y : Int) = z) := ⟨_, rfl⟩
          have hz := Hz.out
          rw [hz] at hfx
          obtain ⟨ds, Hds⟩ : ∃ ds, Hid (prP f i j = ds) := ⟨_, rfl⟩
          rw [hfx] at hno hst hnx
          rw [Hds.out] at hno hst hnx hln hown
          have hsl : Sl wr _ ds := Sl.owned hown
          have HZ1 : Hid (∀ (q : Bool) (W : World), ds.contains z = q → Below wr.heap.size wr W → Calls Try.prog 17 #[_, .int .i64 z] W fun e w' => e = .returned (.bool q) ∧ w' = W) := fun q W hq b => HZ.out ds z q _ W (hsl.below b) (by omega) hq
          obtain ⟨da, dc, rfl⟩ := own_form hown
          have hzb1 : -1000000000 ≤ z ∧ z ≤ 1000000000 := by omega
          clear HZ HSt HNx HLn HX1 HNo1 HA HV e2 hy c2 HC1 HD Hz hsl hfx
          cases hc : ds.contains z
          · have HZ2 : Hid (∀ (W : World), Below wr.heap.size wr W → Calls Try.prog 17 #[.slice da ds.length dc, .int .i64 z] W fun e w' => e = .returned (.bool false) ∧ w' = W) := fun W b => HZ1.out false W hc b
            have HND : Hid ((prP f i (j + 1)).Nodup) := hst (fun h => by rw [List.contains_iff_mem.2 h] at hc; cases hc)
            have HNX : Hid (prP f i (j + 1) = ds ++ [z]) := hnx
            clear HZ1 hc hno hst hnx
            go_wp2
            go_quiet (fail)
            go_wp2_with fail
            refine (HZ2.out _ (bdrewN (Below.refl _ wr) _)).mono ?_
            rintro e w2 ⟨rfl, hw⟩
            have hown2 : w2.ownsRow g 3 1 (.slice da ds.length dc) ds.length (ds.map (Value.int .i64)) := by rw [hw]; exact hown
            have hB2 : Below g w w2 := by rw [hw]; exact bdrewN hB _
            have hgs2 : g ≤ w2.heap.size := by rw [← hgw]; exact hB2.size
            clear hw HZ2 hown hB k1 k2
            go_wp2_with (first
              | (at_builtin; refine wpList_append_own _ rfl _ _ 22 rfl g 3 i3 (.int .i64 0) 1 8 und22 hi3 hz0 hz1 hz2 rfl (by decide) _ _ _ rfl (hown2.alloc _) ⟨w2.heap.size, 0, none⟩ 1 1 [.int .i64 z] rfl rfl (fun j u hj => by (match j, hj with | 0, hj => simp at hj; subst hj; simp [Addr.add])) (fun u hu => by (simp at hu; subst hu; rfl)) (by (unfold maxLen; omega)) (by omega) (by (simp; omega)) ?_; intro v' w4 hown' hgrow _)
              | go_in)
            have hb4 : Below g w w4 := (hB2.alloc (by omega) _).grown hgrow (by simp; omega) (fun k hk => (hown2.lt k hk).1)
            have hown4 : w4.ownsRow g 3 1 v' (prP f i (j + 1)).length ((prP f i (j + 1)).map (Value.int .i64)) := by
              rw [HNX.out, List.length_append, List.map_append]
              exact hown'
            clear hown' hgrow hown2 hB2
            go_roundw
            case rel => exact ⟨j + 1, by go_num, by omega, HND, hown4, hb4⟩
            case measure => simp [intOf]; omega
          · have HZ2 : Hid (∀ (W : World), Below wr.heap.size wr W → Calls Try.prog 17 #[.slice da ds.length dc, .int .i64 z] W fun e w' => e = .returned (.bool true) ∧ w' = W) := fun W b => HZ1.out true W hc b
            obtain rfl := hno (List.contains_iff_mem.1 hc)
            clear HZ1 hc hst hnx hno
            go_wp2
            go_quiet (fail)
            go_wp2_with fail
            refine (HZ2.out _ (bdrewN (Below.refl _ wr) _)).mono ?_
            rintro e w2 ⟨rfl, hw⟩
            have HB2 : Hid (Below g w w2) := by rw [hw]; exact bdrewN hB _
            clear hw HZ2 hown hB k1 k2
            go_wp2
            go_ret
            exact ⟨rfl, HB2.out⟩
        · have hdej : decide ((j : Int) < i) = false := by simp; omega
          have hjj : ¬ (j : Int) < i := by omega
          obtain rfl : j = i := by omega
          rw [HR2.out] at HD hown
          go_wp2
          go_roundw
          case rel => exact ⟨j + 1, by go_num, by omega, HD, hown, hB⟩
          case measure => simp [intOf]; omega
    · have hdec : decide ((i : Int) < n) = false := by simp; omega
      obtain rfl : i = n := by omega
      obtain rfl := HYe.out HD.out
      go_wp2
      go_ret
      exact ⟨rfl, hB⟩
set_option maxRecDepth 100000 in
set_option maxHeartbeats 8000000 in
theorem SidonOf_any (v : Nat) (l : List Nat) (u : Value) (w : World) (h1 : 1 ≤ v) (h60v : v ≤ 60) (hu : Sl w u (l.map Int.ofNat)) (h60 : l.length ≤ 60) (hb : ∀ x ∈ l, x < v) :
    Calls Try.prog 10 #[u, .int .i64 (v : Int)] w fun e w' => e = .returned (.bool (sidB v l)) ∧ Below w.heap.size w w' := by
  obtain ⟨i3, hi3, hz0, hz1, hz2⟩ := info3
  obtain ⟨a, ca, rfl, hA⟩ := sl_at hu
  obtain ⟨g, Hg⟩ : ∃ g, Hid (w.heap.size = g) := ⟨_, rfl⟩
  have HA : Hid (∀ i, i < l.length → ∃ b off, a = some ⟨b, off, none⟩ ∧ ∀ W, Below g w W → W.cell? ⟨b, off + i, none⟩ = some (.int .i64 ((l.getD i 0 : Nat) : Int))) := fun i hi => by
    obtain ⟨b, o, e, hc⟩ := hA i hi
    exact ⟨b, o, e, fun W bW => (bW.cell (by rw [← Hg.out]; exact World.block_lt_of_cell? _ _ hc)).trans hc⟩
  have HV : Hid (∀ i, i < l.length → l.getD i 0 < v) := fun i hi => by
    rw [List.getD_eq_getElem?_getD, List.getElem?_eq_getElem hi]; exact hb _ (List.getElem_mem hi)
  obtain ⟨f, Hf⟩ : ∃ f : Nat → Nat → Int, Hid (∀ i j, sdF v l i j = f i j) := ⟨sdF v l, fun _ _ => rfl⟩
  have hfe : sdF v l = f := by funext i j; exact Hf.out i j
  have HI : Hid (sidB v l = true ↔ Unl f (l.length + 1)) := by rw [← hfe]; exact sidB_iff
  have HX : Hid (∀ i j, i < l.length → j < i + 1 → f (i + 1) j = (((l.getD i 0 + l.getD j 0) % v : Nat) : Int)) := fun i j _ _ => by rw [← hfe]; rfl
  obtain ⟨r, Hr⟩ : ∃ r, Hid (sidB v l = r) := ⟨_, rfl⟩
  rw [Hr.out] at HI ⊢
  have HNo : Hid (∀ i j, i < l.length → j < i + 1 → f (i + 1) j ∈ prP f (i + 1) j → r = false) := fun i j hi hj h => by
    rw [Bool.eq_false_iff]
    exact fun e => un_no (n := l.length + 1) hj (by omega) h (HI.out.1 e)
  have HYe : Hid ((prP f (l.length + 1) 0).Nodup → r = true) := fun h => HI.out.2 (prL_nodup.1 (by rw [← prP_zero]; exact h))
  have HSt : Hid (∀ i j, (prP f i j).Nodup → f i j ∉ prP f i j → (prP f i (j + 1)).Nodup) := fun i j h1 h2 => un_yes h1 h2
  have HNx : Hid (∀ i j, prP f i (j + 1) = prP f i j ++ [f i j]) := prP_next f
  have HRw : Hid (∀ i, prP f i i = prP f (i + 1) 0) := prP_row f
  have HLn : Hid (∀ i j, i ≤ 61 → j ≤ 61 → (prP f i j).length ≤ 4000) := fun i j h1 h2 => Nat.le_trans (prP_len h1 h2) (by decide)
  have H0 : Hid ((prP f 0 0).Nodup ∧ prP f 0 0 = []) := by rw [prP_zero]; exact ⟨by simp [prL], rfl⟩
  have H1 : Hid ((prP f 1 0).Nodup ∧ prP f 1 0 = []) := by rw [prP_zero]; exact ⟨by simp [prL, List.range_succ], by simp [prL, List.range_succ]⟩
  have HZ : Hid (∀ (ds : List Int) (x : Int) (q : Bool) (dv : Value) (W : World), Sl W dv ds → ds.length ≤ 100000 → ds.contains x = q → Calls Try.prog 17 #[dv, .int .i64 x] W fun e w' => e = .returned (.bool q) ∧ w' = W) := fun ds x q dv W h1 h2 h3 => LiesZ_any ds x q dv W h1 h2 h3
  rw [Hg.out]
  have hgw : w.heap.size = g := Hg.out
  generalize l.length = n at *
  clear hu hA hb HI hfe Hf
  have hv0 : (v : Int) ≠ 0 := by omega
  have hw4 : ¬ v = 0 := by omega
  go_enter Try.func10, Try.ntmps10
  go_wp2
  go_loopw [5, 6] (fun dv iv wr => ∃ (i : Nat), iv = .int .i64 (i : Int) ∧ i ≤ n ∧ Hid ((prP f (i + 1) 0).Nodup) ∧ wr.ownsRow g 3 1 dv (prP f (i + 1) 0).length ((prP f (i + 1) 0).map (Value.int .i64)) ∧ Below g w wr) (fun _ iv _ => (n - intOf iv).toNat)
  case atStart => exact ⟨0, rfl, by omega, H1.out.1, by rw [show (0 + 1) = 1 from rfl, H1.out.2]; exact World.ownsRow_nil _ _ _ _, by rw [← hgw]; exact Below.refl _ _⟩
  case round =>
    clear H0 H1
    obtain ⟨i, rfl, hi, HD, hown, hB⟩ := hrel
    by_cases hlt : i < n
    · have hii : (i : Int) < n := by omega
      have hdec : decide ((i : Int) < n) = true := by simp; omega
      obtain ⟨b1, o1, rfl, c1⟩ := HA.out i hlt
      have hxv := HV.out i hlt
      have HX1 : Hid (∀ j, j < i + 1 → f (i + 1) j = (((l.getD i 0 + l.getD j 0) % v : Nat) : Int)) := fun j hj => HX.out i j hlt hj
      obtain ⟨x, hx⟩ : ∃ x, l.getD i 0 = x := ⟨_, rfl⟩
      rw [hx] at c1 hxv HX1
      have HC1 : Hid (∀ W, Below g w W → W.cell? ⟨b1, o1 + i, none⟩ = some (.int .i64 (x : Int))) := c1
      have HNo1 : Hid (∀ j, j < i + 1 → f (i + 1) j ∈ prP f (i + 1) j → r = false) := fun j hj h => HNo.out i j hlt hj h
      have HR1 := HRw.out (i + 1)
      have HR2 : Hid (prP f (i + 1) (i + 1) = prP f ((i + 1) + 1) 0) := HR1
      clear hx c1 HX HNo HYe HRw HR1
      go_wp2
      go_loopw [5, 7] (fun dv jv wr => ∃ (j : Nat), jv = .int .i64 (j : Int) ∧ j ≤ (i + 1) ∧ Hid ((prP f (i + 1) j).Nodup) ∧ wr.ownsRow g 3 1 dv (prP f (i + 1) j).length ((prP f (i + 1) j).map (Value.int .i64)) ∧ Below g w wr) (fun _ jv _ => (i + 1 - intOf jv).toNat)
      case atStart => exact ⟨0, rfl, by omega, HD, hown, hB⟩
      case round =>
        clear HD hown hB
        obtain ⟨j, rfl, hj, HD, hown, hB⟩ := hrel
        have hgs : g ≤ wr.heap.size := by rw [← hgw]; exact hB.size
        by_cases hlj : j < i + 1
        · have hjj : (j : Int) ≤ i := by omega
          have hdej : decide ((j : Int) ≤ i) = true := by simp; omega
          have hjn : (j : Int) < n := by omega
          obtain ⟨b2, o2, e2, c2⟩ := HA.out j (by omega)
          obtain ⟨rfl, rfl⟩ : b1 = b2 ∧ o1 = o2 := by
            simp only [Option.some.injEq, Addr.mk.injEq] at e2
            exact ⟨e2.1, e2.2.1⟩
          have hyv := HV.out j (by omega)
          have hfx := HX1.out j hlj
          have hno := HNo1.out j hlj
          have hst := HSt.out (i + 1) j HD.out
          have hnx := HNx.out (i + 1) j
          have hln := HLn.out (i + 1) j (by omega) (by omega)
          have k1 := HC1.out _ hB
          have k2 := c2 _ hB
          obtain ⟨y, hy⟩ : ∃ y, l.getD j 0 = y := ⟨_, rfl⟩
          rw [hy] at k2 hyv hfx
          have hmod : ((x : Int) + (y : Int)).tmod (v : Int) = (((x + y) % v : Nat) : Int) := by rw [← Int.natCast_add, Int.ofNat_tmod]
          have hmod2 : ((x : Int) + (y : Int)) % (v : Int) = (((x + y) % v : Nat) : Int) := by rw [← Int.natCast_add]; rfl
          have hzb : (x + y) % v < v := Nat.mod_lt _ (by omega)
          generalize (x + y) % v = z0 at hmod hmod2 hfx hzb
          obtain ⟨z, Hz⟩ : ∃ z : Int, Hid ((z0 : Int) = z) := ⟨_, rfl⟩
          have hz := Hz.out
          rw [hz] at hfx
          obtain ⟨ds, Hds⟩ : ∃ ds, Hid (prP f (i + 1) j = ds) := ⟨_, rfl⟩
          rw [hfx] at hno hst hnx
          rw [Hds.out] at hno hst hnx hln hown
          have hsl : Sl wr _ ds := Sl.owned hown
          have HZ1 : Hid (∀ (q : Bool) (W : World), ds.contains z = q → Below wr.heap.size wr W → Calls Try.prog 17 #[_, .int .i64 z] W fun e w' => e = .returned (.bool q) ∧ w' = W) := fun q W hq b => HZ.out ds z q _ W (hsl.below b) (by omega) hq
          obtain ⟨da, dc, rfl⟩ := own_form hown
          clear HZ HSt HNx HLn HX1 HNo1 HA HV e2 hy c2 HC1 HD Hz hsl hfx
          cases hc : ds.contains z
          · have HZ2 : Hid (∀ (W : World), Below wr.heap.size wr W → Calls Try.prog 17 #[.slice da ds.length dc, .int .i64 z] W fun e w' => e = .returned (.bool false) ∧ w' = W) := fun W b => HZ1.out false W hc b
            have HND : Hid ((prP f (i + 1) (j + 1)).Nodup) := hst (fun h => by rw [List.contains_iff_mem.2 h] at hc; cases hc)
            have HNX : Hid (prP f (i + 1) (j + 1) = ds ++ [z]) := hnx
            clear HZ1 hc hno hst hnx
            go_wp2
            go_quiet (fail)
            go_wp2_with fail
            refine (HZ2.out _ (bdrewN (Below.refl _ wr) _)).mono ?_
            rintro e w2 ⟨rfl, hw⟩
            have hown2 : w2.ownsRow g 3 1 (.slice da ds.length dc) ds.length (ds.map (Value.int .i64)) := by rw [hw]; exact hown
            have hB2 : Below g w w2 := by rw [hw]; exact bdrewN hB _
            have hgs2 : g ≤ w2.heap.size := by rw [← hgw]; exact hB2.size
            clear hw HZ2 hown hB k1 k2
            go_wp2_with (first
              | (at_builtin; refine wpList_append_own _ rfl _ _ 22 rfl g 3 i3 (.int .i64 0) 1 8 und22 hi3 hz0 hz1 hz2 rfl (by decide) _ _ _ rfl (hown2.alloc _) ⟨w2.heap.size, 0, none⟩ 1 1 [.int .i64 z] rfl rfl (fun j u hj => by (match j, hj with | 0, hj => simp at hj; subst hj; simp [Addr.add])) (fun u hu => by (simp at hu; subst hu; rfl)) (by (unfold maxLen; omega)) (by omega) (by (simp; omega)) ?_; intro v' w4 hown' hgrow _)
              | go_in)
            have hb4 : Below g w w4 := (hB2.alloc (by omega) _).grown hgrow (by simp; omega) (fun k hk => (hown2.lt k hk).1)
            have hown4 : w4.ownsRow g 3 1 v' (prP f (i + 1) (j + 1)).length ((prP f (i + 1) (j + 1)).map (Value.int .i64)) := by
              rw [HNX.out, List.length_append, List.map_append]
              exact hown'
            clear hown' hgrow hown2 hB2
            go_roundw
            case rel => exact ⟨j + 1, by go_num, by omega, HND, hown4, hb4⟩
            case measure => simp [intOf]; omega
          · have HZ2 : Hid (∀ (W : World), Below wr.heap.size wr W → Calls Try.prog 17 #[.slice da ds.length dc, .int .i64 z] W fun e w' => e = .returned (.bool true) ∧ w' = W) := fun W b => HZ1.out true W hc b
            obtain rfl := hno (List.contains_iff_mem.1 hc)
            clear HZ1 hc hst hnx hno
            go_wp2
            go_quiet (fail)
            go_wp2_with fail
            refine (HZ2.out _ (bdrewN (Below.refl _ wr) _)).mono ?_
            rintro e w2 ⟨rfl, hw⟩
            have HB2 : Hid (Below g w w2) := by rw [hw]; exact bdrewN hB _
            clear hw HZ2 hown hB k1 k2
            go_wp2
            go_ret
            exact ⟨rfl, HB2.out⟩
        · have hdej : decide ((j : Int) ≤ i) = false := by simp; omega
          have hjj : ¬ (j : Int) ≤ i := by omega
          obtain rfl : j = (i + 1) := by omega
          rw [HR2.out] at HD hown
          go_wp2
          go_roundw
          case rel => exact ⟨i + 1, by go_num, by omega, HD, hown, hB⟩
          case measure => simp [intOf]; omega
    · have hdec : decide ((i : Int) < n) = false := by simp; omega
      obtain rfl : i = n := by omega
      obtain rfl := HYe.out HD.out
      go_wp2
      go_ret
      exact ⟨rfl, hB⟩

end Go.Proofs.Ytmiinhbffiodmaa
