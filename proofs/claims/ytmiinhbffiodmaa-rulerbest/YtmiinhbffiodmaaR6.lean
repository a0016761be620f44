/- The walk of the document's marked. -/
import Derived.Test.YtmiinhbffiodmaaRSr
import Derived.Test.YtmiinhbffiodmaaRuG
import Derived.Test.YtmiinhbffiodmaaR4b
namespace Go.Proofs.Ytmiinhbffiodmaa
open Go.RowKit Go.Maps

/-- What marked answers. -/
def MkP (r : Option (List Nat)) (w : World) (e : Ending) (w' : World) : Prop := ∃ x, e = .returned (.tuple #[x, .bool r.isSome]) ∧ (∀ out, r = some out → Sl w' x (out.map Int.ofNat)) ∧ Below w.heap.size w w'
theorem fs_none {F : Nat → Option (List Nat)} {m : Nat} (h : ∀ d, d < m → F d = none) : (List.range m).findSome? F = none := by
  rw [List.findSome?_eq_none_iff]
  exact fun d hd => h d (List.mem_range.1 hd)
theorem fs_some {F : Nat → Option (List Nat)} {m d : Nat} {o : List Nat} (hd : d < m) (h : ∀ d', d' < d → F d' = none) (ho : F d = some o) : (List.range m).findSome? F = some o := by
  obtain ⟨k, rfl⟩ : ∃ k, m = d + (k + 1) := ⟨m - d - 1, by omega⟩
  rw [List.range_add, List.findSome?_append, fs_none h, List.range_succ_eq_map]
  simp [ho]
set_option maxHeartbeats 4000000 in
theorem marked_full (long : Nat) (f : Nat) (l : List Nat) (u : Value) (w : World) (hu : Sl w u (l.map Int.ofNat)) (h1 : 1 ≤ l.length) (h7 : l.length ≤ 7) (hlong : long ≤ 100) (hb : ∀ x ∈ l, x ≤ 100) :
    Calls Try.prog 21 #[u, .int .i64 (l.length : Int), .int .i64 (long : Int)] w (MkP (mkS f l.length long l) w) := by
  have hm : mkS f l.length long l = if l.getD (l.length - 1) 0 = long then some l else none := by
    cases f <;> (unfold mkS; rw [if_pos rfl])
  rw [hm]
  have HS : Hid (Sl w u (l.map Int.ofNat)) := hu
  obtain ⟨a, ca, rfl, hA⟩ := sl_at hu
  obtain ⟨b, off, rfl, hc⟩ := hA (l.length - 1) (by omega)
  have hx : l.getD (l.length - 1) 0 ≤ 100 := by
    rw [List.getD_eq_getElem?_getD, List.getElem?_eq_getElem (by omega)]; exact hb _ (List.getElem_mem _)
  obtain ⟨x, Hx⟩ : ∃ x, Hid (l.getD (l.length - 1) 0 = x) := ⟨_, rfl⟩
  rw [Hx.out] at hc hx ⊢
  obtain ⟨n, Hn⟩ : ∃ n, Hid (l.length = n) := ⟨_, rfl⟩
  rw [Hn.out] at HS hc h1 h7 ⊢
  obtain ⟨m, Hm⟩ : ∃ m, Hid (n - 1 = m) := ⟨_, rfl⟩
  have hni : (n : Int) - 1 = (m : Int) := by have := Hm.out; omega
  have hi1 : (m : Int) < (n : Int) := by omega
  rw [Hm.out] at hc
  clear hA hu hb hm
  by_cases he : x = long
  · subst he
    rw [if_pos rfl]
    go_enter Try.func21, Try.ntmps21
    go_wp2
    go_quiet (fail)
    go_wp2
    go_ret2
    exact ⟨_, rfl, fun out h => by cases h; exact HS.out.below (bdrewN (Below.refl _ _) _), bdrewN (Below.refl _ _) _⟩
  · have hq : ((x : Int) == (long : Int)) = false := by simp; omega
    have hq2 : ¬ (x : Int) = (long : Int) := by omega
    rw [if_neg he]
    go_enter Try.func21, Try.ntmps21
    go_wp2
    go_quiet (fail)
    go_wp2
    go_ret2
    exact ⟨_, rfl, fun out h => (by cases h), bdrewN (Below.refl _ _) _⟩
set_option maxRecDepth 100000 in
set_option maxHeartbeats 8000000 in
theorem marked_more (n long f : Nat) (l : List Nat) (u : Value) (w : World) (hu : Sl w u (l.map Int.ofNat)) (h1 : 1 ≤ l.length) (hq : l.length < n) (h7 : n ≤ 7) (hlong : long ≤ 100) (hb : ∀ x ∈ l, x ≤ 100)
    (ih : ∀ (l' : List Nat) (u : Value) (w : World), Sl w u (l'.map Int.ofNat) → l'.length = l.length + 1 → (∀ x ∈ l', x ≤ 100) → Calls Try.prog 21 #[u, .int .i64 (n : Int), .int .i64 (long : Int)] w (MkP (mkS f n long l') w)) :
    Calls Try.prog 21 #[u, .int .i64 (n : Int), .int .i64 (long : Int)] w (MkP (mkS (f + 1) n long l) w) := by
  have HSRC : Hid (∀ W, Below w.heap.size w W → SrcC W u l.length ((l.map Int.ofNat).map (Value.int .i64))) := src_ints hu
  obtain ⟨a, ca, rfl, hA⟩ := sl_at hu
  obtain ⟨b, off, rfl, hc⟩ := hA (l.length - 1) (by omega)
  have hx : l.getD (l.length - 1) 0 ≤ 100 := by
    rw [List.getD_eq_getElem?_getD, List.getElem?_eq_getElem (by omega)]; exact hb _ (List.getElem_mem _)
  have HM : Hid (mkS (f + 1) n long l = (List.range (long - l.getD (l.length - 1) 0)).findSome? fun d => if golB (l ++ [l.getD (l.length - 1) 0 + 1 + d]) then mkS f n long (l ++ [l.getD (l.length - 1) 0 + 1 + d]) else none) := by
    show _ = _
    conv => lhs; unfold mkS
    rw [if_neg (by omega)]
  obtain ⟨z, Hz⟩ : ∃ z, Hid (l.getD (l.length - 1) 0 = z) := ⟨_, rfl⟩
  rw [Hz.out] at hc hx HM
  rw [HM.out]
  have HG : Hid (∀ (y : Nat) (v : Value) (W : World), y ≤ 100 → Sl W v ((l ++ [y]).map Int.ofNat) → Calls Try.prog 7 #[v] W fun e w' => e = .returned (.bool (golB (l ++ [y]))) ∧ Below W.heap.size W w') := fun y v W hy hv => Golomb_any _ v W hv (by rw [List.length_append]; simp; omega) (fun x hx => by
    rcases List.mem_append.1 hx with h | h
    · have := hb x h; omega
    · have := List.mem_singleton.1 h; omega)
  have HI : Hid (∀ (y : Nat) (v : Value) (W : World), y ≤ 100 → Sl W v ((l ++ [y]).map Int.ofNat) → Calls Try.prog 21 #[v, .int .i64 (n : Int), .int .i64 (long : Int)] W (MkP (mkS f n long (l ++ [y])) W)) := fun y v W hy hv => ih _ v W hv (by simp) (fun x hx => by
    rcases List.mem_append.1 hx with h | h
    · exact hb x h
    · have := List.mem_singleton.1 h; omega)
  obtain ⟨F, HF⟩ : ∃ F : Nat → Option (List Nat), Hid ((fun d => if golB (l ++ [z + 1 + d]) then mkS f n long (l ++ [z + 1 + d]) else none) = F) := ⟨_, rfl⟩
  rw [HF.out]
  have HF0 : Hid (∀ d, golB (l ++ [z + 1 + d]) = false → F d = none) := fun d h => by rw [← HF.out]; simp [h]
  have HF1 : Hid (∀ d, golB (l ++ [z + 1 + d]) = true → F d = mkS f n long (l ++ [z + 1 + d])) := fun d h => by rw [← HF.out]; simp [h]
  obtain ⟨R, HR⟩ : ∃ R, Hid ((List.range (long - z)).findSome? F = R) := ⟨_, rfl⟩
  rw [HR.out]
  have HRn : Hid ((∀ d, d < long - z → F d = none) → R = none) := fun h => by rw [← HR.out]; exact fs_none h
  have HRs : Hid (∀ d o, d < long - z → (∀ d', d' < d → F d' = none) → F d = some o → R = some o) := fun d o hd h ho => by rw [← HR.out]; exact fs_some hd h ho
  obtain ⟨q, Hq⟩ : ∃ q, Hid (l.length = q) := ⟨_, rfl⟩
  rw [Hq.out] at HSRC hc h1 hq ⊢
  obtain ⟨m, Hm⟩ : ∃ m, Hid (q - 1 = m) := ⟨_, rfl⟩
  have hni : (q : Int) - 1 = (m : Int) := by have := Hm.out; omega
  have hi1 : (m : Int) < (q : Int) := by omega
  have hne : ((q : Int) == (n : Int)) = false := by simp; omega
  have hne2 : ¬ (q : Int) = (n : Int) := by omega
  rw [Hm.out] at hc
  obtain ⟨i3, hi3, hz0, hz1, hz2⟩ := info3
  clear hA hu hb HM HF HR ih
  go_enter Try.func21, Try.ntmps21
  go_wp2
  go_loopw [8] (fun xv wr => ∃ d : Nat, xv = .int .i64 ((z + 1 + d : Nat) : Int) ∧ d ≤ long - z ∧ Hid (∀ d', d' < d → F d' = none) ∧ Below w.heap.size w wr) (fun xv _ => (long + 1 - intOf xv).toNat)
  case atStart => exact ⟨0, by go_num, by omega, (show ∀ d', d' < 0 → _ from fun d' h => by omega), Below.refl _ _⟩
  case round =>
    clear hc hne hne2
    obtain ⟨d, rfl, hd, HD, hB⟩ := hrel
    obtain ⟨y, Hy⟩ : ∃ y, Hid (z + 1 + d = y) := ⟨_, rfl⟩
    rw [Hy.out]
    by_cases hle : y ≤ long
    · have hdec : decide ((y : Int) ≤ (long : Int)) = true := by simp; omega
      have hlei : (y : Int) ≤ (long : Int) := by omega
      have hdl : d < long - z := by have := Hy.out; omega
      have hS1 := HSRC.out (wr.alloc (.cells #[] 3)) (hB.alloc hB.size _)
      have HE1 : Hid ((wr.alloc (.cells #[] 3)).ownsRow wr.heap.size 3 1 (.slice (some ⟨wr.heap.size, 0, none⟩) 0 0) 0 []) := ⟨rfl, .inr ⟨wr.heap.size, 0, #[], rfl, Nat.le_refl _, heap_alloc_new wr _, Nat.le_refl _, by unfold maxLen; omega, rfl, rfl⟩⟩
      have HS1 : Hid (SrcC (wr.alloc (.cells #[] 3)) (.slice (some ⟨b, off, none⟩) q ca) q ((l.map Int.ofNat).map (Value.int .i64))) := hS1
      obtain ⟨news, Hnews⟩ : ∃ news, Hid ((l.map Int.ofNat).map (Value.int .i64) = news) := ⟨_, rfl⟩
      rw [Hnews.out] at HS1
      have HONE : Hid (∀ u ∈ news, u.oneCell' = true) := fun u hu => by
        rw [← Hnews.out] at hu
        obtain ⟨i, _, rfl⟩ := List.mem_map.1 hu
        rfl
      clear hS1
      have hb0 : Below wr.heap.size wr (wr.alloc (.cells #[] 3)) := (Below.refl _ _).alloc (Nat.le_refl _) _
      go_wp2_with (first
        | (at_builtin; refine wpList_append_srcC _ rfl _ _ 22 rfl wr.heap.size 3 i3 (.int .i64 0) 8 und22 hi3 hz0 hz1 hz2 rfl _ 0 [] rfl HE1.out _ q news rfl HS1.out HONE.out ?c3 ?c4 ?c5 ?_)
        | go_in)
      case c3 => unfold maxLen; omega
      case c4 => omega
      case c5 => simp
      intro v1 w1 hown hgr
      rw [← Hnews.out] at hown
      have hb1 : Below wr.heap.size wr w1 := hb0.grown hgr (by simp) (fun k hk => (HE1.out.lt k hk).1)
      have hs1 := hb1.size
      have hs0 := hB.size
      have hb2 : Below w.heap.size w w1 := hB.trans (hb1.mono hB.size)
      clear HE1 HS1 HONE hb0 hgr hB Hnews
      obtain ⟨g, Hg⟩ : ∃ g, Hid (wr.heap.size = g) := ⟨_, rfl⟩
      rw [Hg.out] at hown hs1 hs0
      clear hb1 Hg
      obtain ⟨oa, oc, rfl⟩ := own_form hown
      have C1 := HG.out y
      have C2 := HI.out y
      have hF0 := HF0.out d
      have hF1 := HF1.out d
      rw [Hy.out] at hF0 hF1
      have hy : y ≤ 100 := by omega
      have HND : Hid (F d = none → ∀ d', d' < d + 1 → F d' = none) := fun h d' hd' => by
        rcases Nat.lt_or_ge d' d with k | k
        · exact HD.out d' k
        · obtain rfl : d' = d := by omega
          exact h
      have HRS : Hid (∀ o, F d = some o → R = some o) := fun o ho => HRs.out d o hdl HD.out ho
      have HY2 : Hid (z + 1 + (d + 1) = y + 1) := by have := Hy.out; show _ = _; omega
      clear HSRC HG HI HF0 HF1 HRn HRs HD
      cases hgb : golB (l ++ [y])
      · rw [hgb] at C1
        have HN2 := HND.out (hF0 hgb)
        clear hF0 hF1 HND HRS
        go_wp2_with (first
          | (at_builtin; refine wpList_append_own _ rfl _ _ 22 rfl g 3 i3 (.int .i64 0) 1 8 und22 hi3 hz0 hz1 hz2 rfl (by decide) _ _ _ rfl (hown.alloc _) ⟨w1.heap.size, 0, none⟩ 1 1 [.int .i64 (y : Int)] rfl rfl (fun j u hj => by (match j, hj with | 0, hj => simp at hj; subst hj; simp [Addr.add])) (fun u hu => by (simp at hu; subst hu; rfl)) (by (unfold maxLen; omega)) (by omega) (by (simp; omega)) ?_; intro v' w4 hown' hgrow _
             have hb4 : Below w.heap.size w w4 := (hb2.alloc (by omega) _).grown hgrow (by simp; omega) (fun k hk => Nat.le_trans hs0 (hown.lt k hk).1)
             have hsl : Sl w4 v' ((l ++ [y]).map Int.ofNat) := ORo.sl (base := g) (by unfold ORo; rw [List.length_append, Hq.out]; simpa using hown')
             clear hown' hgrow hown hb2
             have D1 := C1 v' w4 hy hsl
             have D2 := fun W (hW : Below w4.heap.size w4 W) => C2 v' W hy (hsl.below hW)
             have hs4 := hb4.size
             clear C1 C2 hsl)
          | (go_at_call 7; refine D1.mono ?_; rintro e w5 ⟨rfl, hb5⟩; clear D1; have D3 := D2 w5 hb5; have hb6 := hb4.trans (hb5.mono hs4); have hs6 := hb6.size; clear D2 hb5)
          | go_in)
        clear D3
        go_roundw
        case rel => exact ⟨d + 1, by rw [HY2.out]; go_num, by omega, HN2, hb6⟩
        case measure => simp [intOf]; omega
      · rw [hgb] at C1
        have hF := hF1 hgb
        clear hF0 hF1
        cases hr : mkS f n long (l ++ [y]) with
        | none =>
          rw [hr] at C2 hF
          have HN2 := HND.out hF
          clear HND HRS hF
          go_wp2_with (first
            | (at_builtin; refine wpList_append_own _ rfl _ _ 22 rfl g 3 i3 (.int .i64 0) 1 8 und22 hi3 hz0 hz1 hz2 rfl (by decide) _ _ _ rfl (hown.alloc _) ⟨w1.heap.size, 0, none⟩ 1 1 [.int .i64 (y : Int)] rfl rfl (fun j u hj => by (match j, hj with | 0, hj => simp at hj; subst hj; simp [Addr.add])) (fun u hu => by (simp at hu; subst hu; rfl)) (by (unfold maxLen; omega)) (by omega) (by (simp; omega)) ?_; intro v' w4 hown' hgrow _
               have hb4 : Below w.heap.size w w4 := (hb2.alloc (by omega) _).grown hgrow (by simp; omega) (fun k hk => Nat.le_trans hs0 (hown.lt k hk).1)
               have hsl : Sl w4 v' ((l ++ [y]).map Int.ofNat) := ORo.sl (base := g) (by unfold ORo; rw [List.length_append, Hq.out]; simpa using hown')
               clear hown' hgrow hown hb2
               have D1 := C1 v' w4 hy hsl
               have D2 := fun W (hW : Below w4.heap.size w4 W) => C2 v' W hy (hsl.below hW)
               have hs4 := hb4.size
               clear C1 C2 hsl)
            | (go_at_call 7; refine D1.mono ?_; rintro e w5 ⟨rfl, hb5⟩; clear D1; have D3 := D2 w5 hb5; have hb6 := hb4.trans (hb5.mono hs4); have hs6 := hb6.size; clear D2 hb5)
            | (go_at_call 21; refine D3.mono ?_; rintro e w7 ⟨x7, rfl, -, hb7⟩; clear D3; have hb8 := hb6.trans (hb7.mono hs6); clear hb7)
            | go_in)
          go_roundw
          case rel => exact ⟨d + 1, by rw [HY2.out]; go_num, by omega, HN2, hb8⟩
          case measure => simp [intOf]; omega
        | some o =>
          rw [hr] at C2 hF
          have HR2 : Hid (R = some o) := HRS.out o hF
          clear HND HRS hF
          go_wp2_with (first
            | (at_builtin; refine wpList_append_own _ rfl _ _ 22 rfl g 3 i3 (.int .i64 0) 1 8 und22 hi3 hz0 hz1 hz2 rfl (by decide) _ _ _ rfl (hown.alloc _) ⟨w1.heap.size, 0, none⟩ 1 1 [.int .i64 (y : Int)] rfl rfl (fun j u hj => by (match j, hj with | 0, hj => simp at hj; subst hj; simp [Addr.add])) (fun u hu => by (simp at hu; subst hu; rfl)) (by (unfold maxLen; omega)) (by omega) (by (simp; omega)) ?_; intro v' w4 hown' hgrow _
               have hb4 : Below w.heap.size w w4 := (hb2.alloc (by omega) _).grown hgrow (by simp; omega) (fun k hk => Nat.le_trans hs0 (hown.lt k hk).1)
               have hsl : Sl w4 v' ((l ++ [y]).map Int.ofNat) := ORo.sl (base := g) (by unfold ORo; rw [List.length_append, Hq.out]; simpa using hown')
               clear hown' hgrow hown hb2
               have D1 := C1 v' w4 hy hsl
               have D2 := fun W (hW : Below w4.heap.size w4 W) => C2 v' W hy (hsl.below hW)
               have hs4 := hb4.size
               clear C1 C2 hsl)
            | (go_at_call 7; refine D1.mono ?_; rintro e w5 ⟨rfl, hb5⟩; clear D1; have D3 := D2 w5 hb5; have hb6 := hb4.trans (hb5.mono hs4); have hs6 := hb6.size; clear D2 hb5)
            | (go_at_call 21; refine D3.mono ?_; rintro e w7 ⟨x7, rfl, hx7, hb7⟩; clear D3; have hb8 := hb6.trans (hb7.mono hs6); clear hb7)
            | go_in)
          go_ret2
          rw [HR2.out]
          exact ⟨_, rfl, hx7, hb8⟩
    · have hdec : decide ((y : Int) ≤ (long : Int)) = false := by simp; omega
      have hde : d = long - z := by have := Hy.out; omega
      have HR2 : Hid (R = none) := HRn.out fun d' h => HD.out d' (by omega)
      clear HSRC HG HI HF0 HF1 HRn HRs HD
      go_wp2
      go_ret2
      rw [HR2.out]
      exact ⟨_, rfl, fun out h => (by cases h), hB⟩

end Go.Proofs.Ytmiinhbffiodmaa
