/- The walk of Take. -/
import Derived.Test.YtjfjdidibglhaaaD4
namespace Go.Proofs.Ytjfjdidibglhaaa
open Go.RowKit

/-- Runs of a level, without its column. -/
def tkL (c : Nat) (lev : Int) (ls : List (List Int)) : List (List Int) := (ls.filter fun l => l.getD c 0 == lev).map (·.eraseIdx c)
theorem tkL_yes {c i : Nat} {lev : Int} {ls : List (List Int)} {l : List Int} (h : ls[i]? = some l) (e : (l.getD c 0 == lev) = true) : tkL c lev (ls.take (i + 1)) = tkL c lev (ls.take i) ++ [l.eraseIdx c] := by
  unfold tkL
  rw [List.take_add_one, h, List.filter_append, List.map_append]
  simp only [Option.toList_some, List.filter_cons, e, if_true, List.filter_nil, List.map_cons, List.map_nil]
theorem tkL_no {c i : Nat} {lev : Int} {ls : List (List Int)} {l : List Int} (h : ls[i]? = some l) (e : (l.getD c 0 == lev) = false) : tkL c lev (ls.take (i + 1)) = tkL c lev (ls.take i) := by
  unfold tkL
  rw [List.take_add_one, h, List.filter_append, List.map_append]
  simp only [Option.toList_some, List.filter_cons, e, List.filter_nil, List.map_nil, List.append_nil, Bool.false_eq_true, if_false]
theorem tkL_len (c i : Nat) (lev : Int) (ls : List (List Int)) : (tkL c lev (ls.take i)).length ≤ i := by
  unfold tkL
  rw [List.length_map]
  exact Nat.le_trans (List.length_filter_le _ _) (by rw [List.length_take]; omega)
/-- Rows of one's own, and no error; or that there are none. -/
def TkR (w : World) (ls : List (List Int)) (e : Ending) (w' : World) : Prop := (ls = [] ∧ e = .returned (.tuple #[.slice none 0 0, .int .i64 4])) ∨ (ls ≠ [] ∧ OzR w ls e w')
set_option maxRecDepth 100000 in
set_option maxHeartbeats 8000000 in
theorem Take_ok (s k c lev : Nat) (ls : List (List Int)) (v : Value) (w : World) (hv : RwR w v ls) (hG : GoodA s (k + 1) ls) (hc : c < k + 1) (hk : 1 ≤ k) (hlev : lev < s) :
    Calls Try.prog 14 #[.int .i64 (s : Int), v, .int .i64 (c : Int), .int .i64 (lev : Int)] w fun e w' => TkR w (tkL c lev ls) e w' ∧ Below w.heap.size w w' := by
  have CB := isBelow_any s lev w
  rw [belB_iff.2 (by omega)] at CB
  obtain ⟨i40, ji3, jz0, jz1, jz2⟩ := info40
  have HI : Hid (Try.prog.info? 40 = some i40 ∧ i40.zero = some (.slice none 0 0) ∧ i40.size = 1 ∧ i40.bytes = 24) := ⟨ji3, jz0, jz1, jz2⟩
  clear ji3 jz0 jz1 jz2
  have hk8 := hG.k8
  have hn128 := hG.n128
  have C := checkColumn_any s c ls v w hv.rw (by unfold maxLen; omega) (fun l hl => by rw [hG.len l hl]; unfold maxLen; omega)
  rw [hG.paF hc hk] at C
  obtain ⟨n, Hn⟩ : ∃ n, Hid (ls.length = n) := ⟨_, rfl⟩
  have HV : Hid (∀ W, Below w.heap.size w W → RwR W v ls) := fun W b => hv.below b
  obtain ⟨a, cap, rfl, -⟩ := hv
  rw [Hn.out] at C HV hn128 ⊢
  have HAT : Hid (∀ i, i < n → ∃ b, ls[i]? = some b) := fun i hi => ⟨_, List.getElem?_eq_getElem (by rw [Hn.out]; exact hi)⟩
  have HLK : Hid (∀ (i : Nat) (l : List Int), ls[i]? = some l → l.length = k + 1) := fun i l h => hG.len l (List.mem_of_getElem? h)
  have HEN : Hid (tkL c lev (ls.take n) = tkL c lev ls) := by show _ = _; rw [List.take_of_length_le (by rw [Hn.out]; exact Nat.le_refl _)]
  have HOZ0 : Hid (OZ w w.heap.size (.slice none 0 0) (tkL c lev (ls.take 0))) := OZ.nil _ _
  clear hG hlev
  go_enter Try.func14, Try.ntmps14
  go_wp2_with (first
    | (go_at_call 26; refine C.mono ?_; rintro e1 w1 ⟨rfl, h1⟩; replace h1 := h1.symm; subst h1; clear C)
    | (go_at_call 21; refine CB.mono ?_; rintro e2 w2 ⟨rfl, h2⟩; replace h2 := h2.symm; subst h2; clear CB))
  go_loopw [11, 13, 27] (fun ov _ iv wr => ∃ i : Nat, iv = .int .i64 (i : Int) ∧ i ≤ n ∧ OZ wr w.heap.size ov (tkL c lev (ls.take i)) ∧ Below w.heap.size w wr) (fun _ _ iv _ => (n - intOf iv).toNat)
  case atStart => exact ⟨0, rfl, by omega, HOZ0.out, Below.refl _ _⟩
  case round =>
    clear HOZ0
    obtain ⟨i, rfl, hi, hO, hB⟩ := hrel
    have hs3 := hB.size
    by_cases hlt : i < n
    · have hdi : decide ((i : Int) < (n : Int)) = true := by simp; omega
      have hii : (i : Int) < (n : Int) := by omega
      obtain ⟨l, hli⟩ := HAT.out i hlt
      have hlk := HLK.out i l hli
      obtain ⟨b, off, b2, o2, c2, rfl, hci, hSi, hci2⟩ := (HV.out wr hB).at hli rfl (by omega)
      rw [hlk] at hci hSi hci2
      obtain ⟨xb, xo, xc', exa, -, hcj0⟩ := hSi.form hlk (show 0 < k + 1 by omega)
      simp only [Value.slice.injEq, Option.some.injEq, Addr.mk.injEq, true_and, and_true] at exa
      obtain ⟨⟨rfl, rfl⟩, rfl⟩ := exa
      have hcj := hcj0 c hc
      clear hcj0
      have hcc : (c : Int) < (k : Int) + 1 := by omega
      have HY : Hid ((l.getD c 0 == (lev : Int)) = true → tkL c lev (ls.take (i + 1)) = tkL c lev (ls.take i) ++ [l.eraseIdx c]) := tkL_yes hli
      have HNO : Hid ((l.getD c 0 == (lev : Int)) = false → tkL c lev (ls.take (i + 1)) = tkL c lev (ls.take i)) := tkL_no hli
      obtain ⟨x, Hx⟩ : ∃ x, Hid (l.getD c 0 = x) := ⟨_, rfl⟩
      rw [Hx.out] at hcj HY HNO
      have hLl : (tkL c lev (ls.take i)).length ≤ i := tkL_len c i lev ls
      obtain ⟨Ls, HLs⟩ : ∃ Ls, Hid (tkL c lev (ls.take i) = Ls) := ⟨_, rfl⟩
      rw [HLs.out] at hO HY HNO hLl
      obtain ⟨q, Hq⟩ : ∃ q, Hid (Ls.length = q) := ⟨_, rfl⟩
      rw [Hq.out] at hLl
      obtain ⟨oa, oc, eo⟩ := hO.form
      rw [Hq.out] at eo
      subst eo
      cases hq : (x == (lev : Int)) with
      | true =>
        have CW := without_any b2 o2 (k + 1) c2 c l wr hSi hlk hci2 (by omega) hk8 hc
        have hel : (l.eraseIdx c).length = k := by rw [List.length_eraseIdx, if_pos (by omega), hlk]; rfl
        have HHT : Hid (tkL c lev (ls.take (i + 1)) = Ls ++ [l.eraseIdx c]) := HY.out hq
        have HOW : Hid (∀ W, Below wr.heap.size wr W → ∃ vals : List Value, W.ownsRow w.heap.size 40 1 (.slice oa q oc) q vals ∧ ∀ (j : Nat) (u : Value) (m : List Int), vals[j]? = some u → Ls[j]? = some m → OZw W w.heap.size u m) := fun W bW => by
          obtain ⟨vals, h1, h2⟩ := hO.below bW
          rw [Hq.out] at h1
          exact ⟨vals, h1, h2⟩
        have hi3 := HI.out.1
        have hz0 := HI.out.2.1
        have hz1 := HI.out.2.2.1
        have hz2 := HI.out.2.2.2
        obtain ⟨el, Hel⟩ : ∃ el, Hid (l.eraseIdx c = el) := ⟨_, rfl⟩
        rw [Hel.out] at CW HHT hel
        rw [show k + 1 - 1 = k from rfl] at CW
        clear hO hSi hli hlk HY HNO
        go_wp2_with (first
          | (go_at_call 27; refine CW.mono ?_; rintro e2 w2 ⟨y, rfl, hy, b2'⟩; clear CW; obtain ⟨vals, hv1, hv2⟩ := HOW.out w2 b2'; have hs2 := b2'.size; obtain ⟨ya, yc, rfl⟩ := own_sliceI hy)
          | (at_builtin; refine wpList_append_own _ rfl _ _ 22 rfl w.heap.size 40 i40 (.slice none 0 0) 1 24 undR hi3 hz0 hz1 hz2 rfl (by decide) _ _ _ rfl (hv1.alloc _) ⟨w2.heap.size, 0, none⟩ 1 1 [.slice ya k yc] rfl rfl (news_row w2 _ _) (fun u hu => by (simp at hu; subst hu; rfl)) (by (unfold maxLen; omega)) (by omega) (by (simp; omega)) ?_; intro v' w3 hown' hgrow _)
          | go_in)
        have hal := balloc w2 (.cells #[.slice ya k yc] 40)
        have hB3 : Below w.heap.size w w3 := ((Below.next hB b2').alloc (by omega) _).grown hgrow (by simp; omega) (fun k hk => (hv1.lt k hk).1)
        have hO3 : OZ w3 w.heap.size v' (Ls ++ [el]) := OZ.more (own_keep (by rw [Hq.out]; exact hv1) fun b _ hb => hal.block b hb) (fun j u m e1 e2 => (hv2 j u m e1 e2).below hal) (show OZw _ _ _ _ from (show OZw w2 w.heap.size (.slice ya k yc) el from by unfold OZw; rw [hel]; exact ownsRow_low hy hs3).below hal) (by rw [Hq.out]; exact hown') hgrow
        clear hown' hgrow hv1 hv2
        go_roundw
        case rel => exact ⟨i + 1, by go_num, by omega, by rw [HHT.out]; exact hO3, hB3⟩
        case measure => simp [intOf]; omega
      | false =>
        have HHT : Hid (tkL c lev (ls.take (i + 1)) = Ls) := HNO.out hq
        clear hSi hli hlk HY HNO
        go_wp2
        go_roundw
        case rel => exact ⟨i + 1, by go_num, by omega, by rw [HHT.out]; exact hO, hB⟩
        case measure => simp [intOf]; omega
    · have hdi : decide ((i : Int) < (n : Int)) = false := by simp; omega
      obtain rfl : i = n := by omega
      rw [HEN.out] at hO
      obtain ⟨oa, oc, rfl⟩ := hO.form
      obtain ⟨Ls, HLs⟩ : ∃ Ls, Hid (tkL c lev ls = Ls) := ⟨_, rfl⟩
      have HO : Hid (OZ wr w.heap.size (.slice oa (tkL c lev ls).length oc) (tkL c lev ls)) := hO
      have hLl : (tkL c lev ls).length ≤ i := by rw [← HEN.out]; exact tkL_len c i lev ls
      obtain ⟨m, Hm⟩ : ∃ m, Hid ((tkL c lev ls).length = m) := ⟨_, rfl⟩
      rw [Hm.out] at HO hLl ⊢
      clear hO
      by_cases hm : m = 0
      · subst hm
        have HE : Hid (tkL c lev ls = []) := List.length_eq_zero_iff.1 Hm.out
        go_wp2
        go_ret2
        exact ⟨.inl ⟨HE.out, rfl⟩, hB⟩
      · have hd0 : ((m : Int) == 0) = false := by rw [beq_eq_false_iff_ne]; omega
        have hd0n : (m == 0) = false := by rw [beq_eq_false_iff_ne]; omega
        have HE : Hid (tkL c lev ls ≠ []) := fun e => hm (by rw [← Hm.out, e]; rfl)
        go_wp2
        go_ret2
        exact ⟨.inr ⟨HE.out, _, rfl, HO.out⟩, hB⟩
end Go.Proofs.Ytjfjdidibglhaaa
