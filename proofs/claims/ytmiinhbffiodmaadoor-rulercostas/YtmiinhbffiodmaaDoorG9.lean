/- The walk of the search: what grows does. -/
import Derived.Test.YtmiinhbffiodmaaDoorG7
import Derived.Test.YtmiinhbffiodmaaDoorG8
import Derived.Test.YtmiinhbffiodmaaDoorR6
namespace Go.Proofs.YtmiinhbffiodmaaDoor
open Go.RowKit Go.Maps

/-- The variables that the search's closure holds. -/
structure SEnv (w : World) (base g br bn bl bw n long : Nat) : Prop where
  hn : w.heap[bn]? = some (.cells #[.int .i64 (n : Int)] 3 (0, 0))
  hl : w.heap[bl]? = some (.cells #[.int .i64 (long : Int)] 3 (0, 0))
  hr : w.heap[br]? = some (.cells #[.pointer (some ⟨g, 0, none⟩)] 52 (0, 0))
  hw : w.heap[bw]? = some (.cells #[.func (.func 52) #[] #[.pointer (some ⟨br, 0, none⟩), .pointer (some ⟨bn, 0, none⟩), .pointer (some ⟨bl, 0, none⟩), .pointer (some ⟨bw, 0, none⟩)]] 48 (0, 0))
  ln : bn < base
  ll : bl < base
  nr : br ≠ g
  nw : bw ≠ g
theorem SEnv.kr {w w' : World} {base g br bn bl bw n long : Nat} (h : SEnv w base g br bn bl bw n long) (hk : Kr base g w w') : SEnv w' base g br bn bl bw n long :=
  ⟨(hk.low bn h.ln).trans h.hn, (hk.low bl h.ll).trans h.hl, (hk.cells br _ _ _ h.hr (by decide) h.nr).trans h.hr, (hk.cells bw _ _ _ h.hw (by decide) h.nw).trans h.hw, h.ln, h.ll, h.nr, h.nw⟩
theorem SEnv.at {w : World} {base g br bn bl bw n long : Nat} (h : SEnv w base g br bn bl bw n long) : w.cell? ⟨bn, 0, none⟩ = some (.int .i64 (n : Int)) ∧ w.cell? ⟨bl, 0, none⟩ = some (.int .i64 (long : Int)) ∧ w.cell? ⟨br, 0, none⟩ = some (.pointer (some ⟨g, 0, none⟩)) ∧
    w.cell? ⟨bw, 0, none⟩ = some (.func (.func 52) #[] #[.pointer (some ⟨br, 0, none⟩), .pointer (some ⟨bn, 0, none⟩), .pointer (some ⟨bl, 0, none⟩), .pointer (some ⟨bw, 0, none⟩)]) :=
  ⟨by rw [cell_of_row w bn 0 _ _ _ h.hn]; rfl, by rw [cell_of_row w bl 0 _ _ _ h.hl]; rfl, by rw [cell_of_row w br 0 _ _ _ h.hr]; rfl, by rw [cell_of_row w bw 0 _ _ _ h.hw]; rfl⟩
/-- A row of marks. -/
def RM (w : World) (base g m : Nat) (l : List Nat) (c : Nat) : Prop := ∃ c', c' ≤ c ∧ RowS w base g m 32 (l.map Int.ofNat) (TG apM (l.map Int.ofNat)) c'
theorem RM.mono {w : World} {base g m : Nat} {l : List Nat} {c d : Nat} (h : RM w base g m l c) (hd : c ≤ d) : RM w base g m l d := by
  obtain ⟨c', h1, h2⟩ := h
  exact ⟨c', by omega, h2⟩
theorem RM.below {w w' : World} {base g m : Nat} {l : List Nat} {c : Nat} (h : RM w base g m l c) (hb : Below w.heap.size w w') : RM w' base g m l c := by
  obtain ⟨c', h1, h2⟩ := h
  exact ⟨c', h1, h2.below hb⟩
theorem Kr.drewN (base g : Nat) (w : World) (k : Nat) : Kr base g w (w.drewN k) := ⟨rfl, rfl, rfl, Nat.le_refl _, fun _ _ => rfl, fun _ _ _ _ _ _ _ => rfl⟩
theorem RM.len {w : World} {base g m : Nat} {l : List Nat} {c : Nat} (h : RM w base g m l c) : ∃ a cap, w.cell? ⟨g, 0, none⟩ = some (.slice a l.length cap) := by
  obtain ⟨c', h1, h2⟩ := h
  obtain ⟨v, h3, h4⟩ := h2.box
  obtain ⟨a, cap, rfl⟩ := own_form h4
  refine ⟨a, cap, ?_⟩
  rw [cell_of_row w g 0 _ _ _ h3, List.length_map]
  rfl
theorem of_bd {l : List Nat} (h : ∀ x ∈ l, x ≤ 1000) : ∀ i, i < (l.map Int.ofNat).length → 0 ≤ (l.map Int.ofNat).getD i 0 ∧ (l.map Int.ofNat).getD i 0 ≤ 1000000000 := fun i hi => by
  rw [List.length_map] at hi
  have hm : l.getD i 0 ∈ l := by rw [List.getD_eq_getElem?_getD, List.getElem?_eq_getElem hi]; exact List.getElem_mem hi
  have := h _ hm
  rw [getD_of]
  omega
theorem map_snoc (l : List Nat) (x : Nat) : (l ++ [x]).map Int.ofNat = l.map Int.ofNat ++ [(x : Int)] := by simp
theorem put_marks (base g m c : Nat) (l : List Nat) (x : Nat) (w : World) (hR : RM w base g m l c) (hG : golB l = true) (hx : x ≤ 1000) (hl : ∀ y ∈ l, y ≤ 1000) (h7 : l.length ≤ 7) (hc : c ≤ 1000000000000000000) :
    Calls Tryd.prog 39 #[.pointer (some ⟨g, 0, none⟩), .int .i64 (x : Int)] w fun e w' => e = .returned (.bool (golB (l ++ [x]))) ∧ RM w' base g m (l ++ [x]) (c + 7) ∧ Kr base g w w' := by
  obtain ⟨c', h1, h2⟩ := hR
  have hG' : (gpL apM (l.map Int.ofNat)).Nodup := by rw [← gp_gol] at hG; exact of_decide_eq_true hG
  have h := put_row apM base g m 32 c' (l.map Int.ofNat) (x : Int) w byMuch_ap h2 hG' (by omega) (of_bd hl) (by rw [List.length_map]; omega) (by omega)
  rw [← map_snoc, gp_gol] at h
  refine h.mono ?_
  rintro e w' ⟨rfl, h3, h4⟩
  exact ⟨rfl, ⟨_, by rw [List.length_map]; omega, h3⟩, h4⟩
theorem drop_marks (base g m c : Nat) (l : List Nat) (x : Nat) (w : World) (hR : RM w base g m (l ++ [x]) c) (hx : x ≤ 1000) (hl : ∀ y ∈ l, y ≤ 1000) (h7 : l.length ≤ 7) (hc : c ≤ 1000000000000000000) :
    Calls Tryd.prog 46 #[.pointer (some ⟨g, 0, none⟩)] w fun e w' => e = .returned (.tuple #[]) ∧ RM w' base g m l (c + 7) ∧ Kr base g w w' := by
  obtain ⟨c', h1, h2⟩ := hR
  rw [map_snoc] at h2
  refine (drop_row apM base g m 32 c' (l.map Int.ofNat) (x : Int) w byMuch_ap h2 (by omega) (of_bd hl) (by rw [List.length_map]; omega) (by omega)).mono ?_
  rintro e w' ⟨rfl, h3, h4⟩
  exact ⟨rfl, ⟨_, by rw [List.length_map]; omega, h3⟩, h4⟩
/-- How often the map is written to, at most. -/
def KB : Nat → Nat
  | 0 => 0
  | f + 1 => 30 * (20 + KB f)
theorem KB_mono : ∀ f, KB f ≤ KB (f + 1)
  | 0 => by simp [KB]
  | f + 1 => by have := KB_mono f; unfold KB; omega
theorem KB_6 {f : Nat} (h : f ≤ 6) : KB f ≤ 100000000000 := by
  rcases (show f = 0 ∨ f = 1 ∨ f = 2 ∨ f = 3 ∨ f = 4 ∨ f = 5 ∨ f = 6 by omega) with rfl | rfl | rfl | rfl | rfl | rfl | rfl <;> decide
/-- What grows answers, f marks being left. -/
def GroP (base g m br bn bl bw n long f : Nat) : Prop := ∀ (l : List Nat) (x0 c : Nat) (w : World), l.length + f = n → golB l = true → (∀ y ∈ l, y ≤ 1000) → x0 ≤ 60 → c + KB f ≤ 1000000000000000 → SEnv w base g br bn bl bw n long → RM w base g m l c →
    Calls Tryd.prog 52 #[.int .i64 (x0 : Int), .pointer (some ⟨br, 0, none⟩), .pointer (some ⟨bn, 0, none⟩), .pointer (some ⟨bl, 0, none⟩), .pointer (some ⟨bw, 0, none⟩)] w fun e w' =>
      e = .returned (.bool (gS f n long l x0).isSome) ∧ RM w' base g m ((gS f n long l x0).getD l) (c + KB f) ∧ Kr base g w w'
set_option maxRecDepth 100000 in
set_option maxHeartbeats 8000000 in
theorem grows_full (base g m br bn bl bw n long f : Nat) (l : List Nat) (x0 c : Nat) (w : World) (he : l.length = n) (hE : SEnv w base g br bn bl bw n long) (hR : RM w base g m l c) :
    Calls Tryd.prog 52 #[.int .i64 (x0 : Int), .pointer (some ⟨br, 0, none⟩), .pointer (some ⟨bn, 0, none⟩), .pointer (some ⟨bl, 0, none⟩), .pointer (some ⟨bw, 0, none⟩)] w fun e w' =>
      e = .returned (.bool (gS f n long l x0).isSome) ∧ RM w' base g m ((gS f n long l x0).getD l) (c + KB f) ∧ Kr base g w w' := by
  have eg : gS f n long l x0 = some l := by cases f <;> (unfold gS; rw [if_pos he])
  rw [eg]
  obtain ⟨a, cap, hc⟩ := hR.len
  rw [he] at hc
  obtain ⟨e1, e2, e3, e4⟩ := hE.at
  have HR : Hid (∀ k, RM (w.drewN k) base g m l (c + KB f) ∧ Kr base g w (w.drewN k)) := fun k => ⟨(hR.mono (Nat.le_add_right c (KB f))).below (bdrewN (Below.refl _ w) k), Kr.drewN base g w k⟩
  have hnn : ((n : Int) == (n : Int)) = true := by simp
  clear hR hE eg he
  go_enter Tryd.func52, Tryd.ntmps52
  go_wp2
  go_quiet (fail)
  go_wp2
  go_ret
  exact ⟨rfl, HR.out _⟩

set_option maxRecDepth 100000 in
set_option maxHeartbeats 8000000 in
theorem grows_more (base g m br bn bl bw n long f : Nat) (hIH : GroP base g m br bn bl bw n long f) (h7 : n ≤ 7) (hlong : long ≤ 25) (hf6 : f + 1 ≤ 6) : GroP base g m br bn bl bw n long (f + 1) := by
  intro l x0 c w he hg hl hx0 hc hE hR
  have hne : ¬ l.length = n := by omega
  have hKB := KB_6 (show f ≤ 6 by omega)
  have hl7 : l.length ≤ 7 := by omega
  have HPUT : Hid (∀ (x c' : Nat) (W : World), x ≤ 60 → c' ≤ 2000000000000000 → RM W base g m l c' → Calls Tryd.prog 39 #[.pointer (some ⟨g, 0, none⟩), .int .i64 (x : Int)] W fun e w' => e = .returned (.bool (golB (l ++ [x]))) ∧ RM w' base g m (l ++ [x]) (c' + 7) ∧ Kr base g W w') := fun x c' W hx hc' hW => put_marks base g m c' l x W hW hg (by omega) hl hl7 (by omega)
  have HDROP : Hid (∀ (x c' : Nat) (W : World), x ≤ 60 → c' ≤ 4000000000000000 → RM W base g m (l ++ [x]) c' → Calls Tryd.prog 46 #[.pointer (some ⟨g, 0, none⟩)] W fun e w' => e = .returned (.tuple #[]) ∧ RM w' base g m l (c' + 7) ∧ Kr base g W w') := fun x c' W hx hc' hW => drop_marks base g m c' l x W hW (by omega) hl hl7 (by omega)
  have HGR : Hid (∀ (x c' : Nat) (W : World), x ≤ 25 → c' + KB f ≤ 1000000000000000 → golB (l ++ [x]) = true → SEnv W base g br bn bl bw n long → RM W base g m (l ++ [x]) c' → Calls Tryd.prog 52 #[.int .i64 ((x : Int) + 1), .pointer (some ⟨br, 0, none⟩), .pointer (some ⟨bn, 0, none⟩), .pointer (some ⟨bl, 0, none⟩), .pointer (some ⟨bw, 0, none⟩)] W fun e w' =>
      e = .returned (.bool (gS f n long (l ++ [x]) (x + 1)).isSome) ∧ RM w' base g m ((gS f n long (l ++ [x]) (x + 1)).getD (l ++ [x])) (c' + KB f) ∧ Kr base g W w') := fun x c' W hx hc' hgx hW hRW => by
    have h := hIH (l ++ [x]) (x + 1) c' W (by rw [List.length_append]; simp; omega) hgx (fun y hy => by
      rcases List.mem_append.1 hy with h | h
      · exact hl y h
      · rw [List.mem_singleton.1 h]; omega) (by omega) hc' hW hRW
    rw [Int.natCast_add] at h
    exact h
  have HFS : Hid (∀ x, x0 ≤ x → x ≤ long → (∀ y, x0 ≤ y → y < x → (if golB (l ++ [y]) then gS f n long (l ++ [y]) (y + 1) else none) = none) → ∀ o, golB (l ++ [x]) = true → gS f n long (l ++ [x]) (x + 1) = some o → gS (f + 1) n long l x0 = some o) := fun x h1 h2 hno o hgx ho => by
    unfold gS
    rw [if_neg hne]
    refine fs_some (d := x - x0) (by omega) (fun d' hd' => hno (x0 + d') (by omega) (by omega)) ?_
    rw [show x0 + (x - x0) = x by omega, if_pos hgx]
    exact ho
  have HFN : Hid ((∀ y, x0 ≤ y → y ≤ long → (if golB (l ++ [y]) then gS f n long (l ++ [y]) (y + 1) else none) = none) → gS (f + 1) n long l x0 = none) := fun h => by
    unfold gS
    rw [if_neg hne]
    exact fs_none fun d hd => h (x0 + d) (by omega) (by omega)
  obtain ⟨ua, ucap, hcl⟩ := hR.len
  obtain ⟨e1, e2, e3, e4⟩ := hE.at
  have HE : Hid (SEnv w base g br bn bl bw n long) := hE
  obtain ⟨F, HF⟩ : ∃ F, Hid (gS (f + 1) n long l x0 = F) := ⟨_, rfl⟩
  rw [HF.out] at HFS HFN ⊢
  obtain ⟨KF, HKF⟩ : ∃ KF, Hid (KB f = KF) := ⟨_, rfl⟩
  have HKS : Hid (KB (f + 1) = 30 * (20 + KF)) := by show KB (f + 1) = _; rw [← HKF.out]; rfl
  rw [HKF.out] at hKB HGR
  rw [HKS.out] at hc
  have hR0 : ∀ k, RM (w.drewN k) base g m l c := fun k => hR.below (bdrewN (Below.refl _ w) k)
  have HR0 : Hid (∀ k, RM (w.drewN k) base g m l (c + 0 * (20 + KF))) := fun k => by simpa using hR0 k
  have hne' : ((l.length : Int) == (n : Int)) = false := by simp; omega
  have HKR : Hid (∀ k, Kr base g w (w.drewN k)) := fun k => Kr.drewN base g w k
  obtain ⟨ln, Hln⟩ : ∃ ln, Hid (l.length = ln) := ⟨_, rfl⟩
  rw [Hln.out] at hcl hne' hne
  have hne2 : ¬ (ln : Int) = (n : Int) := by omega
  clear hR hR0 hE hIH hl he hg
  go_enter Tryd.func52, Tryd.ntmps52
  go_wp2
  go_quiet (fail)
  go_wp2
  go_loopw [7] (fun xv wr => ∃ x : Nat, xv = .int .i64 (x : Int) ∧ x0 ≤ x ∧ (x = x0 ∨ x ≤ long + 1) ∧ Hid (∀ y, x0 ≤ y → y < x → (if golB (l ++ [y]) then gS f n long (l ++ [y]) (y + 1) else none) = none) ∧ Hid (RM wr base g m l (c + (x - x0) * (20 + KF))) ∧ Hid (Kr base g w wr)) (fun xv _ => (100 - intOf xv).toNat)
  case atStart => exact ⟨x0, rfl, Nat.le_refl _, .inl rfl, (show ∀ y, x0 ≤ y → y < x0 → _ from fun y h h' => by omega), (show RM _ base g m l _ by rw [Nat.sub_self]; exact HR0.out _), HKR.out _⟩
  case round =>
    clear HR0 HKR e1 e2 e3 e4 hcl hne' hne hne2
    obtain ⟨x, rfl, hx1, hx2, HNO, HR, HK⟩ := hrel
    have hE2 := HE.out.kr HK.out
    have HE2 : Hid (SEnv wr base g br bn bl bw n long) := hE2
    obtain ⟨e1, e2, e3, e4⟩ := hE2.at
    obtain ⟨Q, HQ⟩ : ∃ Q, Hid ((x - x0) * (20 + KF) = Q) := ⟨_, rfl⟩
    have hQ : Q ≤ 26 * (20 + KF) := by rw [← HQ.out]; exact Nat.mul_le_mul_right _ (by omega)
    have HQ1 : Hid ((x + 1 - x0) * (20 + KF) = Q + (20 + KF)) := by
      show (x + 1 - x0) * (20 + KF) = _
      rw [show x + 1 - x0 = (x - x0) + 1 by omega, Nat.add_mul, Nat.one_mul, HQ.out]
    rw [HQ.out] at HR
    clear hE2
    by_cases hlt : x ≤ long
    · have hdx : decide ((x : Int) ≤ (long : Int)) = true := by simp; omega
      have hdx' : decide (x ≤ long) = true := by simpa using hlt
      have hxi : (x : Int) ≤ (long : Int) := by omega
      have hxb : x ≤ 25 := by omega
      have C1 := HPUT.out x (c + Q) wr (by omega) (by omega) HR.out
      have hfs := HFS.out x hx1 hlt HNO.out
      obtain ⟨gb, Hgb⟩ : ∃ gb, Hid (golB (l ++ [x]) = gb) := ⟨_, rfl⟩
      have HN0 : Hid (∀ v, (if golB (l ++ [x]) then gS f n long (l ++ [x]) (x + 1) else none) = v → v = none → ∀ y, x0 ≤ y → y < x + 1 → (if golB (l ++ [y]) then gS f n long (l ++ [y]) (y + 1) else none) = none) := fun v hv hn y h1 h2 => by
        by_cases e : y = x
        · subst e; rw [hv]; exact hn
        · exact HNO.out y h1 (by omega)
      rw [Hgb.out] at C1 hfs HN0
      cases gb
      · have HNO2 : Hid (∀ y, x0 ≤ y → y < x + 1 → (if golB (l ++ [y]) then gS f n long (l ++ [y]) (y + 1) else none) = none) := HN0.out none (by simp) rfl
        have CD := fun W (h : RM W base g m (l ++ [x]) (c + Q + 7)) => HDROP.out x (c + Q + 7) W (by omega) (by omega) h
        clear hfs HN0 HNO HR
        go_wp2_with (first
          | (go_at_call 39; refine C1.mono ?_; rintro e w1 ⟨rfl, hR1, hK1⟩; clear C1; have HR1 : Hid (RM w1 base g m (l ++ [x]) (c + Q + 7)) := hR1; have HE3 := HE2.out.kr hK1; have e3' := HE3.at.2.2.1; have HK2 : Hid (Kr base g w w1) := HK.out.trans hK1; clear hR1 hK1 HE3)
          | (go_at_call 46; refine (CD _ HR1.out).mono ?_; rintro e w2 ⟨rfl, hR2, hK2⟩; clear CD; have HR2 : Hid (RM w2 base g m l (c + Q + 7 + 7)) := hR2; have HK3 : Hid (Kr base g w w2) := HK2.out.trans hK2; clear hR2 hK2))
        go_roundw
        case rel => exact ⟨x + 1, by go_num, by omega, .inr (by omega), HNO2, HR2.out.mono (by rw [HQ1.out]; omega), HK3⟩
        case measure => simp [intOf]; omega
      · have hGR := fun W (hW : SEnv W base g br bn bl bw n long) (h : RM W base g m (l ++ [x]) (c + Q + 7)) => HGR.out x (c + Q + 7) W hxb (by omega) Hgb.out hW h
        have HN1 := HN0.out (gS f n long (l ++ [x]) (x + 1)) (by simp)
        obtain ⟨r, Hr⟩ : ∃ r, Hid (gS f n long (l ++ [x]) (x + 1) = r) := ⟨_, rfl⟩
        rw [Hr.out] at hGR HN1 hfs
        rcases r with _ | out
        · have HNO2 : Hid (∀ y, x0 ≤ y → y < x + 1 → (if golB (l ++ [y]) then gS f n long (l ++ [y]) (y + 1) else none) = none) := HN1 rfl
          have CD := fun W (h : RM W base g m (l ++ [x]) (c + Q + 7 + KF)) => HDROP.out x (c + Q + 7 + KF) W (by omega) (by omega) h
          clear hfs HN0 HNO HR HN1
          go_wp2_with (first
            | (go_at_call 39; refine C1.mono ?_; rintro e w1 ⟨rfl, hR1, hK1⟩; clear C1; have HR1 : Hid (RM w1 base g m (l ++ [x]) (c + Q + 7)) := hR1; have HE3 : Hid (SEnv w1 base g br bn bl bw n long) := HE2.out.kr hK1; have e3' := HE3.out.at.2.2.1; have e4' := HE3.out.at.2.2.2; have HK2 : Hid (Kr base g w w1) := HK.out.trans hK1; clear hR1 hK1)
            | (go_at_call 52; refine (hGR _ HE3.out HR1.out).mono ?_; rintro e w2 ⟨rfl, hR2, hK2⟩; clear hGR; have HR2 : Hid (RM w2 base g m (l ++ [x]) (c + Q + 7 + KF)) := hR2; have HE4 := HE3.out.kr hK2; have e3'' := HE4.at.2.2.1; have HK3 : Hid (Kr base g w w2) := HK2.out.trans hK2; clear hR2 hK2 HE4)
            | (go_at_call 46; refine (CD _ HR2.out).mono ?_; rintro e w3 ⟨rfl, hR3, hK3⟩; clear CD; have HR3 : Hid (RM w3 base g m l (c + Q + 7 + KF + 7)) := hR3; have HK4 : Hid (Kr base g w w3) := HK3.out.trans hK3; clear hR3 hK3))
          go_roundw
          case rel => exact ⟨x + 1, by go_num, by omega, .inr (by omega), HNO2, HR3.out.mono (by rw [HQ1.out]; omega), HK4⟩
          case measure => simp [intOf]; omega
        · obtain rfl := hfs out rfl rfl
          clear HN0 HNO HR HN1
          go_wp2_with (first
            | (go_at_call 39; refine C1.mono ?_; rintro e w1 ⟨rfl, hR1, hK1⟩; clear C1; have HR1 : Hid (RM w1 base g m (l ++ [x]) (c + Q + 7)) := hR1; have HE3 : Hid (SEnv w1 base g br bn bl bw n long) := HE2.out.kr hK1; have e3' := HE3.out.at.2.2.1; have e4' := HE3.out.at.2.2.2; have HK2 : Hid (Kr base g w w1) := HK.out.trans hK1; clear hR1 hK1)
            | (go_at_call 52; refine (hGR _ HE3.out HR1.out).mono ?_; rintro e w2 ⟨rfl, hR2, hK2⟩; clear hGR; have HR2 : Hid (RM w2 base g m out (c + Q + 7 + KF)) := hR2; have HK3 : Hid (Kr base g w w2) := HK2.out.trans hK2; clear hR2 hK2))
          go_ret
          exact ⟨rfl, HR2.out.mono (by rw [HKS.out]; omega), HK3.out⟩
    · have hdx : decide ((x : Int) ≤ (long : Int)) = false := by simp; omega
      have hdx' : decide (x ≤ long) = false := by simpa using hlt
      have hxi : ¬ (x : Int) ≤ (long : Int) := by omega
      obtain rfl := HFN.out fun y h1 h2 => HNO.out y h1 (by omega)
      have HFIN : Hid (RM wr base g m l (c + KB (f + 1))) := HR.out.mono (by rw [HKS.out]; omega)
      go_wp2
      go_ret
      exact ⟨rfl, HFIN.out, HK.out⟩

end Go.Proofs.YtmiinhbffiodmaaDoor
