/- The walks of Drop and Take. -/
import Derived.Test.YtjfjdidibglhaaaD2
import Derived.Test.YtjfjdidibglhaaaD3
import Derived.Test.YtjfjdidibglhaaaDR
namespace Go.Proofs.Ytjfjdidibglhaaa
open Go.RowKit

set_option maxRecDepth 100000 in
set_option maxHeartbeats 4000000 in
theorem Drop_bad (s col : Int) (ls : List (List Int)) (v : Value) (w : World) (hv : Rw w v ls) (hl : ls.length ≤ maxLen) (hll : ∀ l ∈ ls, l.length ≤ maxLen) (h0 : paF s ls col ≠ 0) :
    Calls Try.prog 13 #[.int .i64 s, v, .int .i64 col] w fun e w' => e = .returned (.tuple #[.slice none 0 0, .int .i64 (paF s ls col : Int)]) ∧ Below w.heap.size w w' := by
  have C := checkColumn_any s col ls v w hv hl hll
  obtain ⟨z, Hz⟩ : ∃ z, Hid (paF s ls col = z) := ⟨_, rfl⟩
  rw [Hz.out] at C h0 ⊢
  have hne : ((z : Int) != 0) = true := by simp; omega
  obtain ⟨n, Hn⟩ : ∃ n, Hid (ls.length = n) := ⟨_, rfl⟩
  obtain ⟨a, cap, rfl, -⟩ := hv
  rw [Hn.out] at C ⊢
  clear hl hll
  go_enter Try.func13, Try.ntmps13
  go_wp2_with (go_at_call 26; refine C.mono ?_; rintro e1 w1 ⟨rfl, h1⟩; replace h1 := h1.symm; subst h1; clear C)
  go_ret2
  exact ⟨rfl, Below.refl _ _⟩
set_option maxRecDepth 100000 in
set_option maxHeartbeats 4000000 in
theorem Take_bad (s col lev : Int) (ls : List (List Int)) (v : Value) (w : World) (hv : Rw w v ls) (hl : ls.length ≤ maxLen) (hll : ∀ l ∈ ls, l.length ≤ maxLen) (h0 : paF s ls col ≠ 0) :
    Calls Try.prog 14 #[.int .i64 s, v, .int .i64 col, .int .i64 lev] w fun e w' => e = .returned (.tuple #[.slice none 0 0, .int .i64 (paF s ls col : Int)]) ∧ Below w.heap.size w w' := by
  have C := checkColumn_any s col ls v w hv hl hll
  obtain ⟨z, Hz⟩ : ∃ z, Hid (paF s ls col = z) := ⟨_, rfl⟩
  rw [Hz.out] at C h0 ⊢
  have hne : ((z : Int) != 0) = true := by simp; omega
  obtain ⟨n, Hn⟩ : ∃ n, Hid (ls.length = n) := ⟨_, rfl⟩
  obtain ⟨a, cap, rfl, -⟩ := hv
  rw [Hn.out] at C ⊢
  clear hl hll
  go_enter Try.func14, Try.ntmps14
  go_wp2_with (go_at_call 26; refine C.mono ?_; rintro e1 w1 ⟨rfl, h1⟩; replace h1 := h1.symm; subst h1; clear C)
  go_ret2
  exact ⟨rfl, Below.refl _ _⟩
set_option maxRecDepth 100000 in
set_option maxHeartbeats 4000000 in
theorem Take_far (s col lev : Int) (ls : List (List Int)) (v : Value) (w : World) (hv : Rw w v ls) (hl : ls.length ≤ maxLen) (hll : ∀ l ∈ ls, l.length ≤ maxLen) (h0 : paF s ls col = 0) (hb : belB s lev = false) :
    Calls Try.prog 14 #[.int .i64 s, v, .int .i64 col, .int .i64 lev] w fun e w' => e = .returned (.tuple #[.slice none 0 0, .int .i64 1]) ∧ Below w.heap.size w w' := by
  have C := checkColumn_any s col ls v w hv hl hll
  have CB := isBelow_any s lev w
  rw [hb] at CB
  rw [h0] at C
  obtain ⟨n, Hn⟩ : ∃ n, Hid (ls.length = n) := ⟨_, rfl⟩
  obtain ⟨a, cap, rfl, -⟩ := hv
  rw [Hn.out] at C ⊢
  clear hl hll hb h0
  go_enter Try.func14, Try.ntmps14
  go_wp2_with (first
    | (go_at_call 26; refine C.mono ?_; rintro e1 w1 ⟨rfl, h1⟩; replace h1 := h1.symm; subst h1; clear C)
    | (go_at_call 21; refine CB.mono ?_; rintro e2 w2 ⟨rfl, h2⟩; replace h2 := h2.symm; subst h2; clear CB))
  go_ret2
  exact ⟨rfl, Below.refl _ _⟩
/-- Rows of one's own, and no error. -/
def OzR (w : World) (ls : List (List Int)) (e : Ending) (w' : World) : Prop := ∃ y, e = .returned (.tuple #[y, .int .i64 0]) ∧ OZ w' w.heap.size y ls
set_option maxRecDepth 100000 in
set_option maxHeartbeats 8000000 in
theorem Drop_ok (s k c : Nat) (ls : List (List Int)) (v : Value) (w : World) (hv : RwR w v ls) (hG : GoodA s (k + 1) ls) (hc : c < k + 1) (hk : 1 ≤ k) :
    Calls Try.prog 13 #[.int .i64 (s : Int), v, .int .i64 (c : Int)] w fun e w' => OzR w (ls.map (·.eraseIdx c)) e w' ∧ Below w.heap.size w w' := by
  obtain ⟨i40, ji3, jz0, jz1, jz2⟩ := info40
  have HI : Hid (Try.prog.info? 40 = some i40 ∧ i40.zero = some (.slice none 0 0) ∧ i40.size = 1 ∧ i40.bytes = 24) := ⟨ji3, jz0, jz1, jz2⟩
  clear ji3 jz0 jz1 jz2
  have hk8 := hG.k8
  have hn128 := hG.n128
  have C := checkColumn_any s c ls v w hv.rw (by unfold maxLen; omega) (fun l hl => by rw [hG.len l hl]; unfold maxLen; omega)
  rw [hG.paF hc hk] at C
  obtain ⟨n, Hn⟩ : ∃ n, Hid (ls.length = n) := ⟨_, rfl⟩
  have HV : Hid (∀ W, Below w.heap.size w W → RwR W v ls) := fun W b => hv.below b
  obtain ⟨a, cap, rfl, -⟩ := hv
  rw [Hn.out] at C HV hn128 ⊢
  have HAT : Hid (∀ i, i < n → ∃ b, ls[i]? = some b) := fun i hi => ⟨_, List.getElem?_eq_getElem (by rw [Hn.out]; exact hi)⟩
  have HLN : Hid (∀ i : Nat, i ≤ n → ((ls.take i).map (·.eraseIdx c)).length = i) := fun i hi => by rw [List.length_map, List.length_take, Hn.out]; omega
  have HLK : Hid (∀ (i : Nat) (l : List Int), ls[i]? = some l → l.length = k + 1) := fun i l h => hG.len l (List.mem_of_getElem? h)
  have HTK : Hid (∀ (i : Nat) (l : List Int), ls[i]? = some l → (ls.take (i + 1)).map (·.eraseIdx c) = (ls.take i).map (·.eraseIdx c) ++ [l.eraseIdx c]) := fun i l h => by rw [List.take_add_one, h, List.map_append]; rfl
  have HEN : Hid ((ls.take n).map (·.eraseIdx c) = ls.map (·.eraseIdx c)) := by show _ = _; rw [List.take_of_length_le (by rw [Hn.out]; exact Nat.le_refl _)]
  have HOZ0 : Hid (OZ w w.heap.size (.slice none 0 0) ((ls.take 0).map (·.eraseIdx c))) := OZ.nil _ _
  clear hG
  go_enter Try.func13, Try.ntmps13
  go_wp2_with (go_at_call 26; refine C.mono ?_; rintro e1 w1 ⟨rfl, h1⟩; replace h1 := h1.symm; subst h1; clear C)
  go_loopw [9, 11, 21] (fun ov _ iv wr => ∃ i : Nat, iv = .int .i64 (i : Int) ∧ i ≤ n ∧ OZ wr w.heap.size ov ((ls.take i).map (·.eraseIdx c)) ∧ Below w.heap.size w wr) (fun _ _ iv _ => (n - intOf iv).toNat)
  case atStart => exact ⟨0, rfl, by omega, HOZ0.out, Below.refl _ _⟩
  case round =>
    clear HOZ0
    obtain ⟨i, rfl, hi, hO, hB⟩ := hrel
    have hs3 := hB.size
    by_cases hlt : i < n
    · have hdi : decide ((i : Int) < (n : Int)) = true := by simp; omega
      have hii : (i : Int) < (n : Int) := by omega
      obtain ⟨l, hli⟩ := HAT.out i hlt
      have hlk := HLK.out i l hli
      obtain ⟨b, off, b2, o2, c2, rfl, hci, hSi, hci2⟩ := (HV.out wr hB).at hli rfl (by omega)
      rw [hlk] at hci hSi hci2
      have CW := without_any b2 o2 (k + 1) c2 c l wr hSi hlk hci2 (by omega) hk8 hc
      have hel : (l.eraseIdx c).length = k := by rw [List.length_eraseIdx, if_pos (by omega), hlk]; rfl
      have HT := HTK.out i l hli
      have HHT : Hid ((ls.take (i + 1)).map (·.eraseIdx c) = (ls.take i).map (·.eraseIdx c) ++ [l.eraseIdx c]) := HT
      have hL := HLN.out i hi
      have HHL : Hid (((ls.take i).map (·.eraseIdx c)).length = i) := hL
      obtain ⟨Ls, HLs⟩ : ∃ Ls, Hid ((ls.take i).map (·.eraseIdx c) = Ls) := ⟨_, rfl⟩
      rw [HLs.out] at hO HHT HHL
      have HOW : Hid (∀ W, Below wr.heap.size wr W → ∃ vals : List Value, W.ownsRow w.heap.size 40 1 u9 i vals ∧ ∀ (j : Nat) (u : Value) (m : List Int), vals[j]? = some u → Ls[j]? = some m → OZw W w.heap.size u m) := fun W bW => by
        obtain ⟨vals, h1, h2⟩ := hO.below bW
        rw [HHL.out] at h1
        exact ⟨vals, h1, h2⟩
      obtain ⟨oa, oc, eo⟩ := hO.form
      rw [HHL.out] at eo
      subst eo
      have hi3 := HI.out.1
      have hz0 := HI.out.2.1
      have hz1 := HI.out.2.2.1
      have hz2 := HI.out.2.2.2
      obtain ⟨el, Hel⟩ : ∃ el, Hid (l.eraseIdx c = el) := ⟨_, rfl⟩
      rw [Hel.out] at CW HHT hel
      rw [show k + 1 - 1 = k from rfl] at CW
      clear HT hL hO hSi hli hlk
      go_wp2_with (first
        | (go_at_call 27; refine CW.mono ?_; rintro e2 w2 ⟨y, rfl, hy, b2'⟩; clear CW; obtain ⟨vals, hv1, hv2⟩ := HOW.out w2 b2'; have hy1 : y.oneCell' = true := (by obtain ⟨_, ⟨rfl, _⟩ | ⟨_, _, _, rfl, _⟩⟩ := id hy <;> rfl); have hs2 := b2'.size; obtain ⟨ya, yc, rfl⟩ := own_sliceI hy)
        | (at_builtin; refine wpList_append_own _ rfl _ _ 22 rfl w.heap.size 40 i40 (.slice none 0 0) 1 24 undR hi3 hz0 hz1 hz2 rfl (by decide) _ _ _ rfl (hv1.alloc _) ⟨w2.heap.size, 0, none⟩ 1 1 [.slice ya k yc] rfl rfl (news_row w2 _ _) (fun u hu => by (simp at hu; subst hu; rfl)) (by (unfold maxLen; omega)) (by omega) (by (simp; omega)) ?_; intro v' w3 hown' hgrow _)
        | go_in)
      have hal := balloc w2 (.cells #[.slice ya k yc] 40)
      have hB3 : Below w.heap.size w w3 := ((Below.next hB b2').alloc (by omega) _).grown hgrow (by simp; omega) (fun k hk => (hv1.lt k hk).1)
      have hO3 : OZ w3 w.heap.size v' (Ls ++ [el]) := OZ.more (own_keep (by rw [HHL.out]; exact hv1) fun b _ hb => hal.block b hb) (fun j u m e1 e2 => (hv2 j u m e1 e2).below hal) (show OZw _ _ _ _ from (show OZw w2 w.heap.size (.slice ya k yc) el from by unfold OZw; rw [hel]; exact ownsRow_low hy hs3).below hal) (by rw [HHL.out]; exact hown') hgrow
      clear hown' hgrow hv1 hv2
      go_roundw
      case rel => exact ⟨i + 1, by go_num, by omega, by rw [HHT.out]; exact hO3, hB3⟩
      case measure => simp [intOf]; omega
    · have hdi : decide ((i : Int) < (n : Int)) = false := by simp; omega
      obtain rfl : i = n := by omega
      rw [HEN.out] at hO
      obtain ⟨oa, oc, rfl⟩ := hO.form
      obtain ⟨m, Hm⟩ : ∃ m, Hid ((ls.map (·.eraseIdx c)).length = m) := ⟨_, rfl⟩
      have HO : Hid (OZ wr w.heap.size (.slice oa (ls.map (·.eraseIdx c)).length oc) (ls.map (·.eraseIdx c))) := hO
      rw [Hm.out] at HO ⊢
      clear hO
      go_wp2
      go_ret2
      exact ⟨⟨_, rfl, HO.out⟩, hB⟩
end Go.Proofs.Ytjfjdidibglhaaa
