/- What Other tells. -/
import Derived.Test.YtlmjlffipinjiaaSP10
namespace Go.Proofs.Ytlmjlffipinjiaa
open Go.RowKit Go.Shelf

set_option maxHeartbeats 1000000 in
theorem other1_any (n : Int) (f : Nat → Nat) (g a b : Nat) (w : World) (hg : GrW w g n f) (ha : a < 24) (hb : b < 24) (hf : f a < 2 ^ 32) :
    Calls Try.prog 21 #[.int .i64 (a : Int), .int .i64 (b : Int), .pointer (some ⟨g, 0, none⟩)] w fun e w' => e = .returned (.bool (!(f a).testBit b)) ∧ Below w.heap.size w w' := by
  obtain ⟨fs, hu⟩ := und45
  have CJ := joined_any n f a b w ha hb hf
  go_enter Try.func21, Try.ntmps21
  go_wp2_with (first
    | (refine wpList_load_row rfl 45 _ rfl g rfl 45 _ (0, 0) _ hg hu rfl (inf45 _ _) ?_)
    | (go_at_call 22; refine CJ.mono ?_; rintro e w2 ⟨rfl, hb2⟩; clear CJ))
  go_ret
  exact ⟨rfl, hb2⟩
theorem ownS_of {w : World} {g n : Nat} {l : List Int} {F : Nat → Int} (hl : l.length = n) (h : Own w g n F) (e : ∀ j, j < n → F j = l.getD j 0) : OwnS w (.slice (some ⟨g, 0, none⟩) n n) l := by
  subst hl
  exact .inr ⟨g, l.length, rfl, h.congr e⟩
theorem rng_get (z : Nat) (f : Nat → Int) {j : Nat} (hj : j < z) : ((List.range z).map f).getD j 0 = f j := by simp [hj]
set_option maxRecDepth 100000 in
set_option maxHeartbeats 8000000 in
theorem foth : FOth := by
  intro s L v W hv hll
  obtain ⟨fs, hu⟩ := und45
  have hbox := heap_alloc_new W (.cells #[.int .i64 s, v] 24)
  have b0 := balloc W (.cells #[.int .i64 s, v] 24)
  have b1 := balloc (W.alloc (.cells #[.int .i64 s, v] 24)) (.cells #[.int .i64 0, .slice none 0 0] 24)
  have hr1 : ((W.alloc (.cells #[.int .i64 s, v] 24)).alloc (.cells #[.int .i64 0, .slice none 0 0] 24)).heap[W.heap.size + 1]? = some (.cells #[.int .i64 0, .slice none 0 0] 24 (0, 0)) := by
    have := heap_alloc_new (W.alloc (.cells #[.int .i64 s, v] 24)) (.cells #[.int .i64 0, .slice none 0 0] 24)
    rwa [World.size_alloc] at this
  have hbox1 := (b1.block W.heap.size (by simp)).trans hbox
  obtain ⟨x0, x1, _, _⟩ := row2 hbox1
  have b01 := Below.next b0 b1
  have CO := open_any s L v _ (hv.below b01) hll
  have hls : W.heap.size + 1 < ((W.alloc (.cells #[.int .i64 s, v] 24)).alloc (.cells #[.int .i64 0, .slice none 0 0] 24)).heap.size := by simp
  generalize hW1 : ((W.alloc (.cells #[.int .i64 s, v] 24)).alloc (.cells #[.int .i64 0, .slice none 0 0] 24)) = W1 at *
  have HLS : Hid (W.heap.size + 1 < W1.heap.size) := hls
  have HB1 : Hid (Below W.heap.size W W1) := b01
  have HR1 : Hid (W1.heap[W.heap.size + 1]? = some (.cells #[.int .i64 0, .slice none 0 0] 24 (0, 0))) := hr1
  clear b0 b1 hbox hls b01 hr1 hbox1
  by_cases h0 : gF s L = 0
  · obtain ⟨n, rfl, G⟩ := gF_ok h0
    have hn1 := G.pos
    have hn2 := G.le
    have he : ((gF n L : Int) != 0) = false := by simp [h0]
    have HC18 : Hid (∀ e w2, OpenR n L W1 e w2 → ∃ f, e = .returned (.tuple #[.agg (gRow n f), .int .i64 0]) ∧ Hid ((∀ a, a < n → f a = rbG n (gx n L) a) ∧ ∀ a, a < 24 → f a < 2 ^ 32) ∧ Below W1.heap.size W1 w2) := by
      rintro e w2 ⟨⟨m, f, rfl, hO⟩, hb2⟩
      obtain ⟨n', e1, _, rfl, h1, h2⟩ := op_good h0 hO
      obtain rfl : n = n' := by omega
      exact ⟨f, by rw [h0]; rfl, ⟨h1, h2⟩, hb2⟩
    have HCD : Hid (∀ (f : Nat → Nat) (g : Nat) (w : World), ((∀ a, a < n → f a = rbG n (gx n L) a) ∧ ∀ a, a < 24 → f a < 2 ^ 32) → GrW w g n f → Calls Try.prog 20 #[.int .i64 (n : Int), .func (.func 21) #[] #[.pointer (some ⟨g, 0, none⟩)]] w fun e w' => (∃ y, e = .returned (.agg #[.int .i64 (n : Int), y]) ∧ OwnS w' y (otL n L)) ∧ Below w.heap.size w w') := fun f g w hf hg => by
      refine (drawn_any n 21 #[] #[.pointer (some ⟨g, 0, none⟩)] (fun a b => !(f a).testBit b) w (by omega) (enters_of Try.func21 (by kernel_rfl) rfl) ?_).mono ?_
      · intro a b W hab hb hB
        exact other1_any n f g a b W (hg.below hB hg.lt) (by omega) (by omega) (hf.2 a (by omega))
      · rintro e w' ⟨⟨q, rfl, hq⟩, hb⟩
        refine ⟨⟨_, rfl, ownS_of ?_ hq fun j hj => ?_⟩, hb⟩
        · unfold otL; rw [if_pos h0]; simp [otC]
        · unfold otL
          rw [if_pos h0, Int.toNat_natCast]
          unfold otC
          rw [rng_get _ _ hj]
          refine drF_all (f := otG (gx n L)) (by omega) (fun a b hab hb => ?_) (fun a b ha hb => G.gr.other.sym a b ha hb) (fun a ha => G.gr.other.diag a ha) hj
          rw [hf.1 a (by omega), rb_bit]
          unfold otG
          rcases G.gr.bit a b (by omega) hb with e | e <;> simp [e, hb, show a ≠ b by omega]
    have HOT : Hid (otS n L = n) := by
      show otS n L = n
      unfold otS; rw [if_pos h0]
    have KB : Hid (∀ (w2 : World) (f : Nat → Nat), Below W1.heap.size W1 w2 → Below W1.heap.size W1 ((w2.alloc (.cells #[.int .i64 0, .int .u32 0, .int .u32 0, .int .u32 0, .int .u32 0, .int .u32 0, .int .u32 0, .int .u32 0, .int .u32 0, .int .u32 0, .int .u32 0, .int .u32 0, .int .u32 0, .int .u32 0, .int .u32 0, .int .u32 0, .int .u32 0, .int .u32 0, .int .u32 0, .int .u32 0, .int .u32 0, .int .u32 0, .int .u32 0, .int .u32 0, .int .u32 0] 45)).setRow w2.heap.size (gRow n f))) := fun w2 f hb => Below.next hb (bsetR (balloc w2 _) (Nat.le_refl _) _)
    have CO2 := CO.mono (HC18.out)
    clear CO
    go_enter Try.func10, Try.ntmps10
    go_wp2_with (first
      | (rw [hW1])
      | (refine wpList_store_row rfl 45 _ _ rfl w2.heap.size (gRow n f) rfl rfl 45 _ hz (inf45 _ _) (by rw [gRow_size]; rfl) (gRow_one _ _) ?_)
      | (go_at_call 18; refine CO2.mono ?_; rintro e w2 ⟨f, rfl, Hf, hb2⟩; clear CO2; have hz := GrW.zero w2; have hg3 : GrW ((w2.alloc (.cells #[.int .i64 0, .int .u32 0, .int .u32 0, .int .u32 0, .int .u32 0, .int .u32 0, .int .u32 0, .int .u32 0, .int .u32 0, .int .u32 0, .int .u32 0, .int .u32 0, .int .u32 0, .int .u32 0, .int .u32 0, .int .u32 0, .int .u32 0, .int .u32 0, .int .u32 0, .int .u32 0, .int .u32 0, .int .u32 0, .int .u32 0, .int .u32 0, .int .u32 0] 45)).setRow w2.heap.size (gRow n f)) w2.heap.size n f := hz.whole n f; have pl := hg3.places; have CN := HCD.out f w2.heap.size ((w2.alloc (.cells #[.int .i64 0, .int .u32 0, .int .u32 0, .int .u32 0, .int .u32 0, .int .u32 0, .int .u32 0, .int .u32 0, .int .u32 0, .int .u32 0, .int .u32 0, .int .u32 0, .int .u32 0, .int .u32 0, .int .u32 0, .int .u32 0, .int .u32 0, .int .u32 0, .int .u32 0, .int .u32 0, .int .u32 0, .int .u32 0, .int .u32 0, .int .u32 0, .int .u32 0] 45)).setRow w2.heap.size (gRow n f)) Hf.out hg3; have hb3 := KB.out w2 f hb2)
      | (go_at_call 20; refine CN.mono ?_; rintro e w4 ⟨⟨y, rfl, hy⟩, hb4⟩; clear CN; obtain ⟨ya, yc, rfl⟩ := hy.len; have hb5 := Below.next hb3 hb4; have hrr := (hb5.block _ HLS.out).trans HR1.out; have r0 := (row2 hrr).1; have r1 := (row2 hrr).2.1; have r2 := (row2 hrr).2.2.1; have r3 := (row2 hrr).2.2.2))
    have hl2 := HLS.out
    refine post_sq2 2 3 rfl rfl (put2_row hrr _ _) rfl rfl ⟨⟨_, by rw [HOT.out, h0]; rfl, ?_⟩, ((Below.next HB1.out hb5).setCell (p := ⟨W.heap.size + 1, 0, none⟩) (by show _ ≤ W.heap.size + 1; omega) _).setCell (p := ⟨W.heap.size + 1, 1, none⟩) (by show _ ≤ W.heap.size + 1; omega) _⟩
    rcases hy with hy | ⟨g, cap, e, ho⟩
    · exact .inl hy
    · have hne := own_ne24 ho hrr
      exact .inr ⟨g, cap, e, (ho.other ⟨W.heap.size + 1, 0, none⟩ _ hne).other ⟨W.heap.size + 1, 1, none⟩ _ hne⟩
  · have he : ((gF s L : Int) != 0) = true := by simp; omega
    have HFIN : Hid (otS s L = 0 ∧ otL s L = []) := ⟨by unfold otS; rw [if_neg h0], by unfold otL; rw [if_neg h0]⟩
    have KB : Hid (∀ (w2 : World) (m : Int) (f : Nat → Nat), Below W1.heap.size W1 w2 → Below W1.heap.size W1 ((w2.alloc (.cells #[.int .i64 0, .int .u32 0, .int .u32 0, .int .u32 0, .int .u32 0, .int .u32 0, .int .u32 0, .int .u32 0, .int .u32 0, .int .u32 0, .int .u32 0, .int .u32 0, .int .u32 0, .int .u32 0, .int .u32 0, .int .u32 0, .int .u32 0, .int .u32 0, .int .u32 0, .int .u32 0, .int .u32 0, .int .u32 0, .int .u32 0, .int .u32 0, .int .u32 0] 45)).setRow w2.heap.size (gRow m f))) := fun w2 m f hb => Below.next hb (bsetR (balloc w2 _) (Nat.le_refl _) _)
    clear h0
    go_enter Try.func10, Try.ntmps10
    go_wp2_with (first
      | (rw [hW1])
      | (refine wpList_store_row rfl 45 _ _ rfl w2.heap.size (gRow m f) rfl rfl 45 _ hz (inf45 _ _) (by rw [gRow_size]; rfl) (gRow_one _ _) ?_)
      | (go_at_call 18; refine CO.mono ?_; rintro e w2 ⟨⟨m, f, rfl, hO⟩, hb2⟩; clear CO; have hz := GrW.zero w2; have hb5 := KB.out w2 m f hb2; have hrr := (hb5.block _ HLS.out).trans HR1.out; have r0 := (row2 hrr).1; have r1 := (row2 hrr).2.1; have r2 := (row2 hrr).2.2.1; have r3 := (row2 hrr).2.2.2))
    exact post_sq2 2 3 rfl rfl (put2_row hrr _ _) rfl rfl ⟨⟨_, by rw [HFIN.out.1]; rfl, by rw [HFIN.out.2]; exact OwnS.nil _⟩, ((Below.next HB1.out hb5).setCell (p := ⟨W.heap.size + 1, 0, none⟩) (by show _ ≤ W.heap.size + 1; omega) _).setCell (p := ⟨W.heap.size + 1, 1, none⟩) (by show _ ≤ W.heap.size + 1; omega) _⟩
end Go.Proofs.Ytlmjlffipinjiaa
