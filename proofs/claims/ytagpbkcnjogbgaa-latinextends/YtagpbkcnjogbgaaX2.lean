/- The walk of wholeRow. -/
import Derived.Test.YtagpbkcnjogbgaaX1
import Derived.Test.YtagpbkcnjogbgaaL16
import Derived.Deep.DeepAppendRoom
namespace Go.Proofs.Ytagpbkcnjogbgaa
open Go.RowKit

theorem vn_sl {w : World} {base : Nat} {v : Value} {b : List Nat} (h : w.ownsRow base 3 1 v b.length (vn b)) : Sl w v (b.map Int.ofNat) := by
  apply Sl.owned (base := base)
  rw [List.length_map]
  have : (b.map Int.ofNat).map (Value.int .i64) = vn b := by simp [vn]
  rw [this]
  exact h
theorem gb_refl (w : World) (g : Nat) : w.grownBy w (some g) := ⟨rfl, rfl, rfl, Nat.le_refl _, fun _ _ _ => rfl⟩
theorem gb_trans {a b c : World} {g : Nat} (h : a.grownBy b (some g)) (k : b.grownBy c (some g)) : a.grownBy c (some g) :=
  ⟨k.os.trans h.os, k.tape.trans h.tape, k.output.trans h.output, Nat.le_trans h.size k.size, fun j hj hn => (k.block j (Nat.lt_of_lt_of_le hj h.size) hn).trans (h.block j hj hn)⟩
theorem gb_below {a b : World} {g : Nat} (h : Below a.heap.size a b) : a.grownBy b (some g) := ⟨h.os, h.tape, h.output, h.size, fun j hj _ => h.block j hj⟩
theorem vn_snoc (b : List Nat) (x : Nat) : vn (b ++ [x]) = vn b ++ [.int .i64 (x : Int)] := by simp [vn]
theorem orow_pre {w : World} {base g n : Nat} {b : List Nat} {x : Nat} (h : w.ownsRow base 3 1 (.slice (some ⟨g, 0, none⟩) (b.length + 1) n) (b.length + 1) (vn b ++ [.int .i64 (x : Int)])) : w.ownsRow base 3 1 (.slice (some ⟨g, 0, none⟩) b.length n) b.length (vn b) := by
  obtain ⟨h1, ⟨h2, _⟩ | ⟨g', cap, cur, e, h3, h4, h5, h6, h7, h8⟩⟩ := h
  · cases h2
  · cases e
    refine ⟨by simp [vn], .inr ⟨g, n, cur, rfl, h3, h4, by omega, h6, h7, ?_⟩⟩
    have h9 := congrArg (List.take b.length) h8
    rw [List.take_take, List.take_append_of_le_length (by simp [vn]), show min b.length ((b.length + 1) * 1) = b.length from by omega] at h9
    rw [Nat.mul_one, h9]
    exact List.take_of_length_le (by simp [vn])
/-- The function tells what may stand where; writes in block g do not touch it. -/
def FitsG (g : Nat) (k : Nat) (lb : Array Value) (n : Nat) (ft : Nat → Nat → Bool) (w : World) : Prop :=
  ∀ W : World, w.grownBy W (some g) → ∀ c x : Nat, c < n → x < n → Calls Try.prog k (#[.int .i64 (c : Int), .int .i64 (x : Int)] ++ lb) W fun e w' => e = .returned (.bool (ft c x)) ∧ Below W.heap.size W w'
def ResG (base g n : Nat) (r : Option (List Nat)) (e : Ending) (w' : World) : Prop := (r = none → e = .returned (.slice none 0 0)) ∧ ∀ t, r = some t → e = .returned (.slice (some ⟨g, 0, none⟩) n n) ∧ w'.ownsRow base 3 1 (.slice (some ⟨g, 0, none⟩) n n) n (vn t)

set_option maxRecDepth 100000 in
set_option maxHeartbeats 8000000 in
theorem wholeRow_go (base g n k : Nat) (lb : Array Value) (ft : Nat → Nat → Bool) (ek : ∀ args w, (callFunc k args).run Try.prog w = .ok (.enter k args) w) (hn : n ≤ 8) : ∀ (m : Nat) (b : List Nat) (w : World), b.length + m = n → w.ownsRow base 3 1 (.slice (some ⟨g, 0, none⟩) b.length n) b.length (vn b) → FitsG g k lb n ft w →
    Calls Try.prog 44 #[.int .i64 (n : Int), .slice (some ⟨g, 0, none⟩) b.length n, .func (.func k) #[] lb] w fun e w' => ResG base g n (rowC n ft m b) e w' ∧ w'.ownsRow base 3 1 (.slice (some ⟨g, 0, none⟩) b.length n) b.length (vn b) ∧ w.grownBy w' (some g)
  | 0, b, w, hm, hO, hF => by
    have hl : b.length = n := by omega
    have he : ((n : Int) == (n : Int)) = true := by simp
    rw [hl] at hO ⊢
    go_enter Try.func44, Try.ntmps44
    go_wp2
    go_ret
    exact ⟨⟨fun h => by simp [rowC] at h, fun t ht => by simp only [rowC, Option.some.injEq] at ht; subst ht; exact ⟨rfl, hO⟩⟩, hO, gb_refl w g⟩
  | m + 1, b, w, hm, hO, hF => by
    have ih := wholeRow_go base g n k lb ft ek hn m
    obtain ⟨i3, ti, tz0, tz1, tz2⟩ := info3
    have HT : Hid (Try.prog.info? 3 = some i3 ∧ i3.size = 1) := ⟨ti, tz1⟩
    obtain ⟨q, Hq⟩ : ∃ q, Hid (b.length = q) := ⟨_, rfl⟩
    have hqn : q < n := by rw [← Hq.out]; omega
    have hqm : Hid (q + (m + 1) = n) := by show _ = _; rw [← Hq.out]; exact hm
    have he : ((q : Int) == (n : Int)) = false := by simp; omega
    have HI : Hid (∀ (b : List Nat) (w : World), b.length + m = n → w.ownsRow base 3 1 (.slice (some ⟨g, 0, none⟩) b.length n) b.length (vn b) → FitsG g k lb n ft w →
    Calls Try.prog 44 #[.int .i64 (n : Int), .slice (some ⟨g, 0, none⟩) b.length n, .func (.func k) #[] lb] w fun e w' => ResG base g n (rowC n ft m b) e w' ∧ w'.ownsRow base 3 1 (.slice (some ⟨g, 0, none⟩) b.length n) b.length (vn b) ∧ w.grownBy w' (some g)) := ih
    have HF : Hid (FitsG g k lb n ft w) := hF
    obtain ⟨R, HR⟩ : ∃ R, Hid (rowC n ft (m + 1) b = R) := ⟨_, rfl⟩
    have HR2 : Hid ((List.range n).findSome? (fun x => if b.contains x || !ft b.length x then none else rowC n ft m (b ++ [x])) = R) := HR.out
    rw [HR.out]
    obtain ⟨vb, Hvb⟩ : ∃ vb, Hid (vn b = vb) := ⟨_, rfl⟩
    rw [Hq.out, Hvb.out] at hO ⊢
    have hbg : Hid (base ≤ g) := by
      obtain ⟨_, ⟨h2, _⟩ | ⟨g', cap, cur, e, h3, _⟩⟩ := id hO
      · cases h2
      · cases e; exact h3
    clear ih hF hm ti tz0 tz1 tz2 HR
    go_enter Try.func44, Try.ntmps44
    go_wp2
    go_loopw [15] (fun i_ wr => ∃ j : Nat, i_ = .int .i64 (j : Int) ∧ j ≤ n ∧ Hid ((List.range j).findSome? (fun x => if b.contains x || !ft b.length x then none else rowC n ft m (b ++ [x])) = none) ∧ wr.ownsRow base 3 1 (.slice (some ⟨g, 0, none⟩) q n) q vb ∧ w.grownBy wr (some g)) (fun i _ => (n - intOf i).toNat)
    case atStart => exact ⟨0, rfl, by omega, (rfl : (List.range 0).findSome? _ = none), hO, gb_refl w g⟩
    case round =>
      clear hO
      obtain ⟨j, rfl, hj, HJ, hO, hG⟩ := hrel
      by_cases hlt : j < n
      · have hdj : decide ((j : Int) < (n : Int)) = true := by simp; omega
        have hS : Sl wr (.slice (some ⟨g, 0, none⟩) q n) (b.map Int.ofNat) := by
          have := hO
          rw [← Hq.out, ← Hvb.out] at this
          rw [← Hq.out]
          exact vn_sl this
        have C1 := Contains_any (b.map Int.ofNat) (j : Int) _ wr (b.contains j) hS (by rw [List.length_map, Hq.out]; omega) (by
          rw [List.contains_iff_mem, List.mem_map]
          constructor
          · intro h; exact ⟨j, h, rfl⟩
          · rintro ⟨y, hy, e⟩
            have : y = j := by have : (y : Int) = (j : Int) := e; omega
            subst this; exact hy)
        have HNX : Hid ((b.contains j = true ∨ ft q j = false → (List.range (j + 1)).findSome? (fun x => if b.contains x || !ft b.length x then none else rowC n ft m (b ++ [x])) = none) ∧ (b.contains j = false → ft q j = true → (rowC n ft m (b ++ [j]) = none → (List.range (j + 1)).findSome? (fun x => if b.contains x || !ft b.length x then none else rowC n ft m (b ++ [x])) = none) ∧ ∀ t, rowC n ft m (b ++ [j]) = some t → R = some t)) := by
          refine ⟨fun h => ?_, fun h1 h2 => ⟨fun h3 => ?_, fun t ht => ?_⟩⟩
          · rw [fs_range, HJ.out]
            show (if b.contains j || !ft b.length j then none else rowC n ft m (b ++ [j])) = none
            rw [if_pos]
            rcases h with h | h
            · rw [h]; rfl
            · rw [Hq.out, h]; simp
          · rw [fs_range, HJ.out]
            show (if b.contains j || !ft b.length j then none else rowC n ft m (b ++ [j])) = none
            rw [Hq.out, h1, h2, if_neg (by simp)]
            exact h3
          · rw [← HR2.out]
            refine fs_at hlt ?_ fun y hy => fs_none HJ.out y hy
            show (if b.contains j || !ft b.length j then none else rowC n ft m (b ++ [j])) = some t
            rw [Hq.out, h1, h2, if_neg (by simp)]
            exact ht
        have D := fun W (b : wr.grownBy W (some g)) => HF.out W (gb_trans hG b) q j hqn hlt
        clear HJ hS
        cases hc : b.contains j with
        | true =>
          have HJ2 := HNX.out.1 (.inl hc)
          rw [hc] at C1
          clear D HNX
          go_wp2_with (go_at_call 48; refine C1.mono ?_; rintro e w1 ⟨rfl, rfl⟩)
          go_roundw
          case rel => exact ⟨j + 1, by go_num, by omega, HJ2, hO, hG⟩
          case measure => simp [intOf]; omega
        | false =>
          rw [hc] at C1
          cases hf : ft q j with
          | false =>
            have HJ2 : Hid ((List.range (j + 1)).findSome? (fun x => if b.contains x || !ft b.length x then none else rowC n ft m (b ++ [x])) = none) := HNX.out.1 (.inr hf)
            have D1 := D wr (gb_refl wr g)
            rw [hf] at D1
            clear D HNX
            go_wp2_with (first
              | (go_at_call 48; refine C1.mono ?_; rintro e w1 ⟨rfl, rfl⟩; clear C1)
              | (go_at_fn k; refine D1.mono ?_; rintro e w2 ⟨rfl, b2⟩; clear D1))
            go_roundw
            case rel => exact ⟨j + 1, by go_num, by omega, HJ2, orow_below hO b2, gb_trans hG (gb_below b2)⟩
            case measure => simp [intOf]; omega
          | true =>
            have HX : Hid ((rowC n ft m (b ++ [j]) = none → (List.range (j + 1)).findSome? (fun x => if b.contains x || !ft b.length x then none else rowC n ft m (b ++ [x])) = none) ∧ ∀ t, rowC n ft m (b ++ [j]) = some t → R = some t) := HNX.out.2 hc hf
            have D1 := D wr (gb_refl wr g)
            rw [hf] at D1
            have HCALL : Hid (∀ W, W.ownsRow base 3 1 (.slice (some ⟨g, 0, none⟩) (q + 1) n) (q + 1) (vb ++ [.int .i64 (j : Int)]) → w.grownBy W (some g) → Calls Try.prog 44 #[.int .i64 (n : Int), .slice (some ⟨g, 0, none⟩) (q + 1) n, .func (.func k) #[] lb] W fun e w' => ResG base g n (rowC n ft m (b ++ [j])) e w' ∧ w'.ownsRow base 3 1 (.slice (some ⟨g, 0, none⟩) (q + 1) n) (q + 1) (vb ++ [.int .i64 (j : Int)]) ∧ W.grownBy w' (some g)) := fun W hW hGW => by
              have hlen : (b ++ [j]).length = q + 1 := by rw [List.length_append, List.length_singleton, Hq.out]
              have h := HI.out (b ++ [j]) W (by rw [hlen]; have := hqm.out; omega) (by rw [hlen, vn_snoc, Hvb.out]; exact hW) (fun W' hW' => HF.out W' (gb_trans hGW hW'))
              rw [hlen, vn_snoc, Hvb.out] at h
              exact h
            obtain ⟨r, Hr⟩ : ∃ r, Hid (rowC n ft m (b ++ [j]) = r) := ⟨_, rfl⟩
            rw [Hr.out] at HX HCALL
            have HPRE : Hid (∀ W : World, W.ownsRow base 3 1 (.slice (some ⟨g, 0, none⟩) (q + 1) n) (q + 1) (vb ++ [.int .i64 (j : Int)]) → W.ownsRow base 3 1 (.slice (some ⟨g, 0, none⟩) q n) q vb) := fun W hW => by
              rw [← Hq.out, ← Hvb.out] at hW ⊢
              exact orow_pre hW
            clear D HNX HI
            cases r with
            | none =>
              have HJ2 : Hid ((List.range (j + 1)).findSome? (fun x => if b.contains x || !ft b.length x then none else rowC n ft m (b ++ [x])) = none) := HX.out.1 rfl
              have HC2 : Hid (∀ W, W.ownsRow base 3 1 (.slice (some ⟨g, 0, none⟩) (q + 1) n) (q + 1) (vb ++ [.int .i64 (j : Int)]) → w.grownBy W (some g) → Calls Try.prog 44 #[.int .i64 (n : Int), .slice (some ⟨g, 0, none⟩) (q + 1) n, .func (.func k) #[] lb] W fun e w' => e = .returned (.slice none 0 0) ∧ w'.ownsRow base 3 1 (.slice (some ⟨g, 0, none⟩) (q + 1) n) (q + 1) (vb ++ [.int .i64 (j : Int)]) ∧ W.grownBy w' (some g)) := fun W hW hGW => (HCALL.out W hW hGW).mono fun e w' h => ⟨h.1.1 rfl, h.2⟩
              clear HX HCALL
              go_wp2_with (first
                | (go_at_call 48; refine C1.mono ?_; rintro e w1 ⟨rfl, rfl⟩; clear C1)
                | (go_at_fn k; refine D1.mono ?_; rintro e w2 ⟨rfl, b2⟩; have hO2 := orow_below hO b2; clear D1)
                | (at_builtin; refine wpList_append_own_spare _ rfl _ _ 22 rfl base 3 i3 1 und22 HT.out.1 HT.out.2 g q n vb rfl (hO2.alloc _) ⟨w2.heap.size, 0, none⟩ 1 1 [.int .i64 (j : Int)] rfl rfl (news_one w2 _) (fun u hu => by simp at hu; subst hu; rfl) (by omega) ?_; intro w4 hO4 hg4; have hG4 := gb_trans (gb_trans hG (gb_below (Below.next b2 (balloc w2 (.cells #[.int .i64 (j : Int)] 3))))) hg4; have E := HC2.out w4 hO4 hG4)
                | (go_at_call 44; refine E.mono ?_; rintro e w5 ⟨rfl, hO5, hg5⟩; clear E))
              go_roundw
              case rel => exact ⟨j + 1, by go_num, by omega, HJ2, HPRE.out _ hO5, gb_trans hG4 hg5⟩
              case measure => simp [intOf]; omega
            | some t =>
              have HRt := HX.out.2 t rfl
              subst HRt
              have HC2 : Hid (∀ W, W.ownsRow base 3 1 (.slice (some ⟨g, 0, none⟩) (q + 1) n) (q + 1) (vb ++ [.int .i64 (j : Int)]) → w.grownBy W (some g) → Calls Try.prog 44 #[.int .i64 (n : Int), .slice (some ⟨g, 0, none⟩) (q + 1) n, .func (.func k) #[] lb] W fun e w' => (e = .returned (.slice (some ⟨g, 0, none⟩) n n) ∧ w'.ownsRow base 3 1 (.slice (some ⟨g, 0, none⟩) n n) n (vn t)) ∧ w'.ownsRow base 3 1 (.slice (some ⟨g, 0, none⟩) (q + 1) n) (q + 1) (vb ++ [.int .i64 (j : Int)]) ∧ W.grownBy w' (some g)) := fun W hW hGW => (HCALL.out W hW hGW).mono fun e w' h => ⟨h.1.2 t rfl, h.2⟩
              clear HX HCALL
              go_wp2_with (first
                | (go_at_call 48; refine C1.mono ?_; rintro e w1 ⟨rfl, rfl⟩; clear C1)
                | (go_at_fn k; refine D1.mono ?_; rintro e w2 ⟨rfl, b2⟩; have hO2 := orow_below hO b2; clear D1)
                | (at_builtin; refine wpList_append_own_spare _ rfl _ _ 22 rfl base 3 i3 1 und22 HT.out.1 HT.out.2 g q n vb rfl (hO2.alloc _) ⟨w2.heap.size, 0, none⟩ 1 1 [.int .i64 (j : Int)] rfl rfl (news_one w2 _) (fun u hu => by simp at hu; subst hu; rfl) (by omega) ?_; intro w4 hO4 hg4; have hG4 := gb_trans (gb_trans hG (gb_below (Below.next b2 (balloc w2 (.cells #[.int .i64 (j : Int)] 3))))) hg4; have E := HC2.out w4 hO4 hG4)
                | (go_at_call 44; refine E.mono ?_; rintro e w5 ⟨⟨rfl, hT5⟩, hO5, hg5⟩; clear E))
              go_ret
              exact ⟨⟨fun h => (by cases h), fun t' h => (by cases h; exact ⟨rfl, hT5⟩)⟩, HPRE.out _ hO5, gb_trans hG4 hg5⟩
      · have hdj : decide ((j : Int) < (n : Int)) = false := by simp; omega
        obtain rfl : j = n := by omega
        have hR : R = none := HR2.out.symm.trans HJ.out
        subst hR
        go_wp2
        go_ret
        exact ⟨⟨fun _ => rfl, fun t h => by cases h⟩, hO, hG⟩
end Go.Proofs.Ytagpbkcnjogbgaa
