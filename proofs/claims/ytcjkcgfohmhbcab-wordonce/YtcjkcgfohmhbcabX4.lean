/- The landed way of parting a word (Duval's), walked: three labels, two ways back. -/
import Derived.Test.YtcjkcgfohmhbcabWA
import Derived.Test.YtcjkcgfohmhbcabWdI
import Derived.Test.YtcjkcgfohmhbcabWxJ
import Derived.Test.YtcjkcgfohmhbcabX1
import Derived.WalkMore
namespace Go.Proofs.Ytcjkcgfohmhbcab
open Go.RowKit

/-- What the frame holds at a label. -/
def PSt (w0 : World) (v : Value) (Ls : List Nat) (s b a : Nat) (act : Act) (wr : World) : Prop := ∃ (oa : Option Addr) (oc : Nat) (u7 u8 u9 u10 u11 u12 u13 u14 u15 u16 u17 u18 u19 u20 u21 u22 u23 u24 u25 u26 u27 u28 u29 u30 u31 u32 u33 u34 u35 u36 u37 u38 u39 u40 u41 u42 u43 u44 u45 u46 u47 u48 u49 u50 u51 u52 u53 u54 u55 u56 u57 u58 u59 u60 u61 u62 u63 u64 u65 : Value), act = { tmps := #[v, undef, .slice none 0 0, .slice oa Ls.length oc, .int .i64 (s : Int), .int .i64 (b : Int), .int .i64 (a : Int), u7, u8, u9, u10, u11, u12, u13, u14, u15, u16, u17, u18, u19, u20, u21, u22, u23, u24, u25, u26, u27, u28, u29, u30, u31, u32, u33, u34, u35, u36, u37, u38, u39, u40, u41, u42, u43, u44, u45, u46, u47, u48, u49, u50, u51, u52, u53, u54, u55, u56, u57, u58, u59, u60, u61, u62, u63, u64, u65], defers := [] } ∧ wr.ownsRow w0.heap.size 3 1 (.slice oa Ls.length oc) Ls.length (nz Ls) ∧ Below w0.heap.size w0 wr
def JP (w0 : World) (v : Value) (M : List Nat) (l m : Nat) (act : Act) (wr : World) : Prop := match l with
  | 0 => ∃ Ls s b a, NS M Ls s ∧ m = duM M.length 0 s 0 ∧ PSt w0 v Ls s b a act wr
  | 1 => ∃ Ls s b a, FS M Ls s b a ∧ m = duM M.length 1 s a ∧ PSt w0 v Ls s b a act wr
  | 2 => ∃ Ls s b a, CS M Ls s b a ∧ m = duM M.length 2 s 0 ∧ PSt w0 v Ls s b a act wr
  | _ => False
theorem JP_lt (w0 : World) (v : Value) (M : List Nat) (l m : Nat) (act : Act) (wr : World) (h : JP w0 v M l m act wr) : l < 3 := by
  match l, h with
  | 0, _ => decide
  | 1, _ => decide
  | 2, _ => decide
  | n + 3, h => exact h.elim
theorem Wd.cells {w : World} {v : Value} {M : List Nat} (h : Wd w v M) (h0 : 0 < M.length) : ∃ b o c, v = .slice (Option.some ⟨b, o, none⟩) M.length c ∧ ∀ i, i < M.length → w.cell? ⟨b, o + i, none⟩ = Option.some (Value.int .i64 ((M.getD i 0 : Nat) : Int)) := by
  obtain ⟨b, o, c, rfl, -⟩ := h.some h0
  exact ⟨b, o, c, rfl, fun i hi => h.cellAt hi⟩
set_option maxRecDepth 100000 in
set_option maxHeartbeats 16000000 in
theorem parted_any (M : List Nat) (v : Value) (w : World) (hv : Wd w v M) (hl : M.length ≤ 4096) :
    Calls Try.prog 21 #[v] w fun e w' => (∃ y, e = .returned y ∧ Wd w' y (facL M)) ∧ Below w.heap.size w w' := by
  obtain ⟨i3, ki3, kz0, kz1, kz2⟩ := info3
  obtain ⟨z, Hz⟩ : ∃ z, Hid (facL M = z) := ⟨_, rfl⟩
  have HEND : Hid (∀ Ls, NS M Ls M.length → Ls = z) := fun Ls h => by rw [← Hz.out]; exact h.all
  rw [Hz.out]
  obtain ⟨va, vc, rfl, hvc, hcell⟩ := hv
  have HC : Hid (∀ W, Below w.heap.size w W → ∀ i, i < M.length → ∀ b o, va = Option.some ⟨b, o, none⟩ → W.cell? ⟨b, o + i, none⟩ = Option.some (Value.int .i64 ((M.getD i 0 : Nat) : Int))) := fun W bW i hi b o e => by
    obtain ⟨b', o', e', hc⟩ := hcell i hi
    rw [e] at e'
    cases e'
    exact (bW.cell (World.block_lt_of_cell? _ _ hc)).trans hc
  obtain ⟨n, Hn⟩ : ∃ n, Hid (M.length = n) := ⟨_, rfl⟩
  rw [Hn.out] at HC hl hvc hcell HEND ⊢
  go_enter Try.func21, Try.ntmps21
  go_wp2
  refine wp_leaps (JP w (.slice va n vc) M) rfl rfl rfl (JP_lt w (.slice va n vc) M) ?p2 ?p1 ?p0 ?first
  case p2 =>
    rintro B m a₀ wr hm ⟨Ls, s, b, a, hC, rfl, oa, oc, u7, u8, u9, u10, u11, u12, u13, u14, u15, u16, u17, u18, u19, u20, u21, u22, u23, u24, u25, u26, u27, u28, u29, u30, u31, u32, u33, u34, u35, u36, u37, u38, u39, u40, u41, u42, u43, u44, u45, u46, u47, u48, u49, u50, u51, u52, u53, u54, u55, u56, u57, u58, u59, u60, u61, u62, u63, u64, u65, rfl, hown, hB⟩
    have hlen := hC.len
    obtain ⟨p, Hp⟩ : ∃ p, Hid (a - b = p) := ⟨_, rfl⟩
    have hmore := hC.more
    have hdone := hC.done
    rw [Hp.out] at hlen hmore hdone
    have hp1 : 1 ≤ p := by have := Hp.out; omega
    have eab : (a : Int) - (b : Int) = (p : Int) := by have := Hp.out; omega
    have hd2 := @du_d n s (s + p) (by omega) (by have := Hn.out; omega)
    have he2 := @du_e n s (s + p) (by omega) (by have := Hn.out; omega)
    rw [Hn.out] at hm hlen
    have hpw : IntKind.i64.wrap (p : Int) = (p : Int) := IntWalk.i64_in _ (by omega)
    have hsw : IntKind.i64.wrap ((s : Int) + (p : Int)) = (s : Int) + (p : Int) := IntWalk.i64_in _ (by omega)
    have hbs := hB.size
    have hq : Ls.length ≤ 4096 := by omega
    obtain ⟨q, Hq⟩ : ∃ q, Hid (Ls.length = q) := ⟨_, rfl⟩
    rw [Hq.out] at hown hq ⊢
    go_wp2_with (first
      | (at_builtin; refine wpList_append_own _ rfl _ _ 23 rfl w.heap.size 3 i3 (.int .i64 0) 1 8 und22 ki3 kz0 kz1 kz2 rfl (by decide) _ _ _ rfl (hown.alloc _) ⟨wr.heap.size, 0, none⟩ 1 1 [.int .i64 (p : Int)] rfl rfl ?c1 ?c2 ?c3 ?c4 ?c5 ?_)
      | go_in)
    case c1 =>
      intro j u hj
      match j, hj with
      | 0, hj => simp at hj; subst hj; simp [Addr.add]
    case c2 => intro u hu; simp at hu; subst hu; rfl
    case c3 => unfold maxLen; omega
    case c4 => omega
    case c5 => simp; omega
    intro v' w6 hown' hgrow _
    have hb6 : Below w.heap.size w w6 := (hB.alloc hbs _).grown hgrow (by simp; omega) (fun k hk => (hown.lt k hk).1)
    rw [show nz Ls ++ [Value.int .i64 (p : Int)] = nz (Ls ++ [p]) from (nz_more Ls p).symm] at hown'
    obtain ⟨xa, xc, rfl⟩ := own_form hown'
    have hpl : (Ls ++ [p]).length = q + 1 := by rw [List.length_append, Hq.out]; rfl
    by_cases hle : s + p ≤ b
    · have hd : decide ((s : Int) + (p : Int) ≤ (b : Int)) = true := by simp; omega
      have hC2 := hmore hle
      clear hown hgrow hC hmore hdone hB hbs hle he2
      go_wp2
      go_step3
      have esp : (s : Int) + (p : Int) = ((s + p : Nat) : Int) := by omega
      rw [esp]
      rw [← hpl] at hown' ⊢
      exact ⟨duM n 2 (s + p) 0, by omega, Ls ++ [p], s + p, b, a, hC2, by rw [Hn.out], xa, xc, _, _, _, _, _, _, _, _, _, _, _, _, _, _, _, _, _, _, _, _, _, _, _, _, _, _, _, _, _, _, _, _, _, _, _, _, _, _, _, _, _, _, _, _, _, _, _, _, _, _, _, _, _, _, _, _, _, _, _, rfl, hown', hb6⟩
    · have hd : decide ((s : Int) + (p : Int) ≤ (b : Int)) = false := by simp; omega
      have hC2 := hdone (by omega)
      clear hown hgrow hC hmore hdone hB hbs hle hd2
      go_wp2
      go_step3
      have esp : (s : Int) + (p : Int) = ((s + p : Nat) : Int) := by omega
      rw [esp]
      rw [← hpl] at hown' ⊢
      exact ⟨duM n 0 (s + p) 0, by omega, Ls ++ [p], s + p, b, a, hC2, by rw [Hn.out], xa, xc, _, _, _, _, _, _, _, _, _, _, _, _, _, _, _, _, _, _, _, _, _, _, _, _, _, _, _, _, _, _, _, _, _, _, _, _, _, _, _, _, _, _, _, _, _, _, _, _, _, _, _, _, _, _, _, _, _, _, _, rfl, hown', hb6⟩
  case p1 =>
    rintro H2 B m a₀ wr hm ⟨Ls, s, b, a, hF, rfl, oa, oc, u7, u8, u9, u10, u11, u12, u13, u14, u15, u16, u17, u18, u19, u20, u21, u22, u23, u24, u25, u26, u27, u28, u29, u30, u31, u32, u33, u34, u35, u36, u37, u38, u39, u40, u41, u42, u43, u44, u45, u46, u47, u48, u49, u50, u51, u52, u53, u54, u55, u56, u57, u58, u59, u60, u61, u62, u63, u64, u65, rfl, hown, hB⟩
    have hlen := hF.len
    have hsame := hF.same
    have hmore := hF.more
    have hcut := hF.cut
    have hdb := @du_b n s a
    have hdc := @du_c n s a
    rw [Hn.out] at hm hlen hsame hmore hcut
    obtain ⟨b1, o1, rfl, -⟩ := hcell 0 (by omega)
    have hc1 : a < n → wr.cell? ⟨b1, o1 + a, none⟩ = Option.some (Value.int .i64 ((M.getD a 0 : Nat) : Int)) := fun h => HC.out wr hB a h _ _ rfl
    have hc2 := HC.out wr hB b (by omega) _ _ rfl
    obtain ⟨x, Hx⟩ : ∃ x, Hid (M.getD a 0 = x) := ⟨_, rfl⟩
    obtain ⟨y, Hy⟩ : ∃ y, Hid (M.getD b 0 = y) := ⟨_, rfl⟩
    rw [Hx.out] at hc1 hsame hmore hcut
    rw [Hy.out] at hc2 hsame hmore hcut
    have hai : (a : Int) < 2 ^ 62 := by omega
    have hbi : (b : Int) < (n : Int) := by omega
    by_cases hlt : a < n
    · have hda : decide (a < n) = true := by simpa using hlt
      have hai2 : (a : Int) < (n : Int) := by omega
      have hcx := hc1 hlt
      rcases Nat.lt_trichotomy x y with hxy | hxy | hxy
      · have he : ((x : Int) == (y : Int)) = false := by simp; omega
        have hg : decide (y < x) = false := by simp; omega
        have hC2 := hcut (fun _ => hxy)
        clear hsame hmore hcut hc1 hF
        go_wp2
        go_quiet (fail)
        go_wp2
        go_quiet (fail)
        go_wp2
        go_step3
        rename_i hK
        refine hK _ _ ?_
        exact H2 _ _ _ _ (Nat.le_trans (Nat.le_of_lt (hdc (by omega))) hm) ⟨Ls, s, b, a, hC2, by rw [Hn.out], oa, oc, _, _, _, _, _, _, _, _, _, _, _, _, _, _, _, _, _, _, _, _, _, _, _, _, _, _, _, _, _, _, _, _, _, _, _, _, _, _, _, _, _, _, _, _, _, _, _, _, _, _, _, _, _, _, _, _, _, _, _, rfl, hown, bdrewN (bdrewN hB _) _⟩
      · have he : ((x : Int) == (y : Int)) = true := by simp; omega
        have hF2 := hsame hlt hxy
        clear hsame hmore hcut hc1 hF
        go_wp2
        go_quiet (fail)
        go_wp2
        go_step3
        exact ⟨_, Nat.lt_of_lt_of_le (hdb hlt) hm, Ls, s, b + 1, a + 1, hF2, by rw [Hn.out], oa, oc, _, _, _, _, _, _, _, _, _, _, _, _, _, _, _, _, _, _, _, _, _, _, _, _, _, _, _, _, _, _, _, _, _, _, _, _, _, _, _, _, _, _, _, _, _, _, _, _, _, _, _, _, _, _, _, _, _, _, _, rfl, hown, bdrewN hB _⟩
      · have he : ((x : Int) == (y : Int)) = false := by simp; omega
        have hg : decide (y < x) = true := by simp; omega
        have hF2 := hmore hlt hxy
        clear hsame hmore hcut hc1 hF
        go_wp2
        go_quiet (fail)
        go_wp2
        go_quiet (fail)
        go_wp2
        go_step3
        exact ⟨_, Nat.lt_of_lt_of_le (hdb hlt) hm, Ls, s, s, a + 1, hF2, by rw [Hn.out], oa, oc, _, _, _, _, _, _, _, _, _, _, _, _, _, _, _, _, _, _, _, _, _, _, _, _, _, _, _, _, _, _, _, _, _, _, _, _, _, _, _, _, _, _, _, _, _, _, _, _, _, _, _, _, _, _, _, _, _, _, _, rfl, hown, bdrewN hB _⟩
    · have hda : decide (a < n) = false := by simpa using hlt
      have hC2 := hcut (fun h => absurd h hlt)
      clear hsame hmore hcut hc1 hF
      go_wp2
      go_quiet (fail)
      go_wp2
      go_quiet (fail)
      go_wp2
      go_step3
      rename_i hK
      refine hK _ _ ?_
      exact H2 _ _ _ _ (Nat.le_trans (Nat.le_of_lt (hdc (by omega))) hm) ⟨Ls, s, b, a, hC2, by rw [Hn.out], oa, oc, _, _, _, _, _, _, _, _, _, _, _, _, _, _, _, _, _, _, _, _, _, _, _, _, _, _, _, _, _, _, _, _, _, _, _, _, _, _, _, _, _, _, _, _, _, _, _, _, _, _, _, _, _, _, _, _, _, _, _, rfl, hown, bdrewN (bdrewN hB _) _⟩
  case p0 =>
    rintro H1 B m a₀ wr hm ⟨Ls, s, b, a, hN, rfl, oa, oc, u7, u8, u9, u10, u11, u12, u13, u14, u15, u16, u17, u18, u19, u20, u21, u22, u23, u24, u25, u26, u27, u28, u29, u30, u31, u32, u33, u34, u35, u36, u37, u38, u39, u40, u41, u42, u43, u44, u45, u46, u47, u48, u49, u50, u51, u52, u53, u54, u55, u56, u57, u58, u59, u60, u61, u62, u63, u64, u65, rfl, hown, hB⟩
    have hstep := hN.step
    have hda := @du_a n s
    rw [Hn.out] at hm hstep
    have hs : s ≤ n := by obtain ⟨D, -, -, h⟩ := hN; have := Hn.out; omega
    by_cases hlt : s < n
    · have he : ((s : Int) == (n : Int)) = false := by simp; omega
      have hF := hstep hlt
      have hsw : IntKind.i64.wrap ((s : Int) + 1) = (s : Int) + 1 := IntWalk.i64_in _ (by omega)
      clear hN hstep
      go_wp2
      go_step3
      rename_i hK
      refine hK _ _ ?_
      exact H1 _ _ _ _ (Nat.le_trans (Nat.le_of_lt (hda hlt)) hm) ⟨Ls, s, s, s + 1, hF, by rw [Hn.out], oa, oc, _, _, _, _, _, _, _, _, _, _, _, _, _, _, _, _, _, _, _, _, _, _, _, _, _, _, _, _, _, _, _, _, _, _, _, _, _, _, _, _, _, _, _, _, _, _, _, _, _, _, _, _, _, _, _, _, _, _, _, rfl, hown, hB⟩
    · obtain rfl : s = n := by omega
      have he : ((s : Int) == (s : Int)) = true := by simp
      have HZ : Hid (Ls = z) := HEND.out Ls hN
      have hO : ORow wr w.heap.size (.slice oa Ls.length oc) Ls := hown
      go_wp2
      rw [leaps_ret]
      go_ret
      exact ⟨⟨_, rfl, by rw [← HZ.out]; exact hO.own⟩, hB⟩
  case first =>
    intro H0
    refine ⟨duM n 0 0 0, ?_⟩
    go_wp2
    go_step3
    rename_i hK
    refine hK _ _ ?_
    exact H0 _ _ _ _ (Nat.le_refl _) ⟨[], 0, 0, 0, NS.zero M, by rw [Hn.out], none, 0, _, _, _, _, _, _, _, _, _, _, _, _, _, _, _, _, _, _, _, _, _, _, _, _, _, _, _, _, _, _, _, _, _, _, _, _, _, _, _, _, _, _, _, _, _, _, _, _, _, _, _, _, _, _, _, _, _, _, _, rfl, World.ownsRow_nil _ _ _ _, Below.refl _ _⟩
end Go.Proofs.Ytcjkcgfohmhbcab
