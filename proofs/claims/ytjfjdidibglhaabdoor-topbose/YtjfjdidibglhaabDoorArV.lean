/- A space as runs: its strength by what is normal to it. Nothing of the program. -/
import Derived.Test.YtjfjdidibglhaabDoorSpD
import Derived.Test.YtjfjdidibglhaabDoorArP
import Derived.Test.YtjfjdidibglhaabDoorSpX
/- All lists of a space, made of its basis, one after another. Nothing of the program. -/
namespace Go.Proofs.YtjfjdidibglhaabDoor
section
variable {q n : Nat} {ad mu : Nat → Nat → Nat} {ng : Nat → Nat}

/-- The first place where two lists part is where some row leads. -/
def LtB (R : List (List Nat)) (u v : List Nat) : Prop := ∃ r ∈ R, (∀ j, j < ldV r → u.getD j 0 = v.getD j 0) ∧ u.getD (ldV r) 0 < v.getD (ldV r) 0
/-- A list's number from its left. -/
theorem shu_bd (q : Nat) : ∀ (v : List Nat) (a : Nat), (∀ x ∈ v, x < q) → a * q ^ v.length ≤ v.foldl (fun c x => c * q + x) a ∧ v.foldl (fun c x => c * q + x) a < (a + 1) * q ^ v.length
  | [], a, _ => by simp
  | x :: v, a, hv => by
    have hx := hv x List.mem_cons_self
    obtain ⟨h1, h2⟩ := shu_bd q v (a * q + x) fun y hy => hv y (List.mem_cons_of_mem _ hy)
    rw [List.foldl_cons, List.length_cons, Nat.pow_succ]
    have e1 : a * (q ^ v.length * q) = a * q * q ^ v.length := by rw [Nat.mul_comm (q ^ v.length), Nat.mul_assoc]
    have e2 : (a + 1) * (q ^ v.length * q) = (a * q + q) * q ^ v.length := by rw [Nat.mul_comm (q ^ v.length), ← Nat.mul_assoc, Nat.add_mul, Nat.one_mul]
    rw [e1, e2]
    exact ⟨Nat.le_trans (Nat.mul_le_mul_right _ (Nat.le_add_right _ _)) h1, Nat.lt_of_lt_of_le h2 (Nat.mul_le_mul_right _ (by omega))⟩
theorem shu_lex (q : Nat) : ∀ (u v : List Nat) (a d : Nat), u.length = v.length → (∀ x ∈ u, x < q) → (∀ x ∈ v, x < q) → d < u.length → (∀ j, j < d → u.getD j 0 = v.getD j 0) → u.getD d 0 < v.getD d 0 →
    u.foldl (fun c x => c * q + x) a < v.foldl (fun c x => c * q + x) a
  | [], _, a, d, _, _, _, hd, _, _ => by simp at hd
  | x :: u, [], a, d, hl, _, _, _, _, _ => by simp at hl
  | x :: u, y :: v, a, 0, hl, hu, hv, _, _, h => by
    have hxy : x < y := by simpa using h
    have b1 := (shu_bd q u (a * q + x) fun z hz => hu z (List.mem_cons_of_mem _ hz)).2
    have b2 := (shu_bd q v (a * q + y) fun z hz => hv z (List.mem_cons_of_mem _ hz)).1
    rw [List.foldl_cons, List.foldl_cons]
    have e : u.length = v.length := by simpa using hl
    rw [e] at b1
    exact Nat.lt_of_lt_of_le b1 (Nat.le_trans (Nat.mul_le_mul_right _ (by omega)) b2)
  | x :: u, y :: v, a, d + 1, hl, hu, hv, hd, h0, h => by
    have hxy : x = y := by simpa using h0 0 (by omega)
    subst hxy
    rw [List.foldl_cons, List.foldl_cons]
    exact shu_lex q u v (a * q + x) d (by simpa using hl) (fun z hz => hu z (List.mem_cons_of_mem _ hz)) (fun z hz => hv z (List.mem_cons_of_mem _ hz)) (by simpa using hd) (fun j hj => by simpa using h0 (j + 1) (by omega)) (by simpa using h)
theorem LtB.shu {R : List (List Nat)} (hR : Rref q n R) {u v : List Nat} (hu : Vc q n u) (hv : Vc q n v) (h : LtB R u v) : shu q u < shu q v := by
  obtain ⟨r, hr, h1, h2⟩ := h
  exact shu_lex q u v 0 (ldV r) (by rw [hu.len, hv.len]) hu.lt hv.lt (by rw [hu.len]; exact (hR.one r hr).1) h1 h2
/-- The lists of a space as the document tells them: by their numbers. -/
def liL (q n : Nat) (V : List Nat → Bool) : List (List Nat) := ((List.range (q ^ n)).filter fun c => V (opn q n c)).map (opn q n)
end
end Go.Proofs.YtjfjdidibglhaabDoor

namespace Go.Proofs.YtjfjdidibglhaabDoor
section
variable {q n : Nat} {ad mu : Nat → Nat → Nat} {ng : Nat → Nat}

def uV (n c : Nat) : List Nat := ofF n fun j => if j = c then 1 else 0
theorem uV_at {c j : Nat} (hj : j < n) : (uV n c).getD j 0 = if j = c then 1 else 0 := ofF_at _ hj
theorem uV_vc (h : FqR q ad mu ng) (c : Nat) : Vc q n (uV n c) := ofF_vc fun i _ => by have := h.one; split <;> omega
theorem uV_len (c : Nat) : (uV n c).length = n := by simp [uV, ofF]
theorem uV_ld {c : Nat} (hc : c < n) : ldV (uV n c) = c := ldV_is (by rw [uV_len]; exact hc) (by rw [uV_at hc, if_pos rfl]; decide) fun j hj => by rw [uV_at (by omega), if_neg (by omega)]
theorem uV_rref (h : FqR q ad mu ng) {cs : List Nat} (inc : cs.Pairwise (· < ·)) (hc : ∀ c ∈ cs, c < n) : Rref q n (cs.map (uV n)) where
  rws := fun r hr => by obtain ⟨c, _, rfl⟩ := List.mem_map.1 hr; exact uV_vc h c
  one := fun r hr => by obtain ⟨c, h1, rfl⟩ := List.mem_map.1 hr; rw [uV_ld (hc c h1)]; exact ⟨hc c h1, by rw [uV_at (hc c h1), if_pos rfl]⟩
  inc := List.pairwise_map.2 (inc.imp_of_mem fun {a b} ha hb hab => by rw [uV_ld (hc a ha), uV_ld (hc b hb)]; exact hab)
  col := fun r hr s hs hne => by
    obtain ⟨a, h1, rfl⟩ := List.mem_map.1 hr
    obtain ⟨b, h2, rfl⟩ := List.mem_map.1 hs
    rw [uV_ld (hc a h1), uV_at (hc a h1), if_neg fun e => hne (by rw [e])]
theorem dot_uV (h : FqR q ad mu ng) {v : List Nat} (hv : Vc q n v) {c : Nat} (hc : c < n) : dotV ad mu v (uV n c) n = v.getD c 0 := by
  rw [dotV_one h hv (uV_vc h c) n hc fun j hj hne => by rw [uV_at hj, if_neg hne]; exact h.mu_zero (hv.at h.pos j)]
  rw [uV_at hc, if_pos rfl]
  exact h.mu_one _ (hv.at h.pos c)
open Classical in
theorem cnt_hit (S : List (List Nat)) (cs : List Nat) (x : Nat → Nat) : hit ((liL q n fun v => decide (Spn q ad mu n S v)).map fun l c => l.getD c 0) cs x = cntV q n (fun v => Spn q ad mu n S v ∧ ∀ c ∈ cs, v.getD c 0 = x c) := by
  have e : (liL q n fun v => decide (Spn q ad mu n S v)) = (allV q n).filter fun v => decide (Spn q ad mu n S v) := by
    unfold liL allV
    rw [List.filter_map]
    rfl
  unfold hit cntV
  rw [e, List.countP_map, List.countP_filter]
  refine List.countP_congr fun v _ => ?_
  simp only [Function.comp, Bool.and_eq_true, decide_eq_true_eq, mtc_iff]
  exact ⟨fun k => ⟨k.2, k.1⟩, fun k => ⟨k.2, k.1⟩⟩
open Classical in
theorem len_cnt (S : List (List Nat)) : (liL q n fun v => decide (Spn q ad mu n S v)).length = cntV q n (Spn q ad mu n S) := by
  unfold liL cntV allV
  rw [List.length_map, List.countP_map, List.countP_eq_length_filter]
  rfl
/-- What is normal to the lists that lead in some columns. -/
theorem nrm_uV (h : FqR q ad mu ng) {cs : List Nat} (hc : ∀ c ∈ cs, c < n) (v : List Nat) : Nrm q ad mu n (cs.map (uV n)) v ↔ Vc q n v ∧ ∀ c ∈ cs, v.getD c 0 = 0 := by
  constructor
  · rintro ⟨hv, k⟩
    exact ⟨hv, fun c h1 => by rw [← dot_uV h hv (hc c h1)]; exact k _ (List.mem_map_of_mem h1)⟩
  · rintro ⟨hv, k⟩
    refine ⟨hv, fun r hr => ?_⟩
    obtain ⟨c, h1, rfl⟩ := List.mem_map.1 hr
    rw [dot_uV h hv (hc c h1)]
    exact k c h1
theorem nrm_ex (h : FqR q ad mu ng) {S : List (List Nat)} (hS : Rws q n S) : ∃ U, BasIs q ad mu n (Nrm q ad mu n S) U := by
  obtain ⟨X, hX⟩ := basis_ex h hS
  obtain ⟨U, hU⟩ := basis_ex h (nrms_rws h hX.rref.rws)
  exact ⟨U, nrm_basis h hS hX hU⟩
theorem rref_bas {R : List (List Nat)} (hR : Rref q n R) : BasIs q ad mu n (Spn q ad mu n R) R := ⟨hR, fun _ => Iff.rfl⟩
/-- Only the list of zeros is normal to all. -/
theorem all_iff (h : FqR q ad mu ng) {A : List (List Nat)} (hA : Rws q n A) : cntV q n (Spn q ad mu n A) = q ^ n ↔ ∀ v, Nrm q ad mu n A v → v = zV n := by
  obtain ⟨X, hX⟩ := basis_ex h hA
  obtain ⟨U, hU⟩ := nrm_ex h hA
  have hl := nrm_len h hA hX hU
  rw [hX.cnt h]
  constructor
  · intro e v hv
    have e2 : X.length = n := (Nat.pow_right_inj h.one).1 e
    have hU0 : U = [] := List.length_eq_zero_iff.1 (by omega)
    have := (hU.same v).2 hv
    rw [hU0] at this
    cases this with
    | zero => rfl
    | step _ hr _ => simp at hr
  · intro k
    have hU0 : U = [] := by
      cases U with
      | nil => rfl
      | cons r R =>
        exfalso
        have h1 := hU.rref.one r (by simp)
        have h2 := k r ((hU.same r).1 (Spn.row h hU.rref.rws (by simp)))
        rw [h2] at h1
        have h3 : (zV n).getD (ldV (zV n)) 0 = 0 := ofF_at (n := n) _ h1.1
        omega
    rw [hU0] at hl
    simp at hl
    rw [hl]
theorem cnt_zero_lt (h : FqR q ad mu ng) {V : List Nat → Prop} (k : V (zV n)) : 0 < cntV q n V := by
  unfold cntV
  exact List.countP_pos_iff.2 ⟨zV n, (mem_allV h.pos).2 (zV_vc h), by simpa using k⟩
/-- Some columns are tried alike: nothing that stands in these alone is normal to the space, but the zeros. -/
theorem cols_dual (h : FqR q ad mu ng) {S : List (List Nat)} (hS : Rws q n S) {cs : List Nat} (inc : cs.Pairwise (· < ·)) (hc : ∀ c ∈ cs, c < n) :
    (cntV q n (fun v => Spn q ad mu n S v ∧ ∀ c ∈ cs, v.getD c 0 = 0) * q ^ cs.length = cntV q n (Spn q ad mu n S)) ↔ ∀ v, Nrm q ad mu n S v → (∀ j, j < n → j ∉ cs → v.getD j 0 = 0) → v = zV n := by
  have hE := uV_rref h inc hc
  have hEr := hE.rws
  obtain ⟨U, hU⟩ := nrm_ex h hEr
  have hUr := hU.rref.rws
  have hl := nrm_len h hEr (rref_bas (ad := ad) (mu := mu) hE) hU
  rw [List.length_map] at hl
  have hSU : Rws q n (S ++ U) := fun r hr => (List.mem_append.1 hr).elim (hS r) (hUr r)
  have hG := grassmann h (Spn.spc h hS) (Spn.spc h hUr)
  have e1 : cntV q n (Both2 ad n (Spn q ad mu n S) (Spn q ad mu n U)) = cntV q n (Spn q ad mu n (S ++ U)) := cnt_congr h.pos fun v _ => (spn_append h hS hUr v).symm
  have e2 : cntV q n (fun v => Spn q ad mu n S v ∧ Spn q ad mu n U v) = cntV q n (fun v => Spn q ad mu n S v ∧ ∀ c ∈ cs, v.getD c 0 = 0) := cnt_congr h.pos fun v hv => by
    rw [hU.same v, nrm_uV h hc v]
    exact ⟨fun k => ⟨k.1, k.2.2⟩, fun k => ⟨k.1, hv, k.2⟩⟩
  have e3 : cntV q n (Spn q ad mu n U) = q ^ U.length := hU.rref.cnt h
  rw [e1, e2, e3] at hG
  have hM : 0 < cntV q n (fun v => Spn q ad mu n S v ∧ ∀ c ∈ cs, v.getD c 0 = 0) := cnt_zero_lt h ⟨Spn.zero, fun c hc' => ofF_at _ (hc c hc')⟩
  have hqU : 0 < q ^ U.length := Nat.pow_pos h.pos
  have hqn : q ^ n = q ^ cs.length * q ^ U.length := by rw [← Nat.pow_add, Nat.add_comm, hl]
  have key : (cntV q n (fun v => Spn q ad mu n S v ∧ ∀ c ∈ cs, v.getD c 0 = 0) * q ^ cs.length = cntV q n (Spn q ad mu n S)) ↔ cntV q n (Spn q ad mu n (S ++ U)) = q ^ n := by
    rw [hqn]
    constructor
    · intro e
      rw [← e] at hG
      refine Nat.eq_of_mul_eq_mul_right hM ?_
      rw [hG]
      ac_rfl
    · intro e
      rw [e] at hG
      refine Nat.eq_of_mul_eq_mul_right hqU ?_
      rw [← hG]
      ac_rfl
  rw [key, all_iff h hSU]
  have hN : ∀ v, Nrm q ad mu n (S ++ U) v ↔ Nrm q ad mu n S v ∧ ∀ j, j < n → j ∉ cs → v.getD j 0 = 0 := fun v => by
    rw [nrm_append]
    refine and_congr_right fun hv => ?_
    constructor
    · intro k j hj hjc
      have hu : Nrm q ad mu n (cs.map (uV n)) (uV n j) := (nrm_uV h hc _).2 ⟨uV_vc h j, fun c hcc => by rw [uV_at (hc c hcc), if_neg (fun e : c = j => hjc (by rw [← e]; exact hcc))]⟩
      have hs := (hU.same _).2 hu
      rw [← dot_uV h hv.1 hj]
      exact (Nrm.all h hUr k hs)
    · intro k
      refine ⟨hv.1, fun r hr => ?_⟩
      have hz := ((nrm_uV h hc r).1 ((hU.same r).1 (Spn.row h hUr hr))).2
      refine dotV_lo h n fun j hj => ?_
      by_cases e : j ∈ cs
      · rw [hz j e]; exact h.mu_zero (hv.1.at h.pos j)
      · rw [k j hj e, h.mu_comm _ _ h.pos ((hUr r hr).at h.pos j)]; exact h.mu_zero ((hUr r hr).at h.pos j)
  exact ⟨fun k v h1 h2 => k v ((hN v).2 ⟨h1, h2⟩), fun k v hv => k v ((hN v).1 hv).1 ((hN v).1 hv).2⟩
theorem adV_back (h : FqR q ad mu ng) {u v : List Nat} (hu : Vc q n u) (hv : Vc q n v) : adV ad n (adV ad n u v) (ngV ng n v) = u := by
  rw [adV_assoc h hu hv (ngV_vc h hv), adV_ng h hv, adV_zero h hu]
theorem ad_left (h : FqR q ad mu ng) {a b : Nat} (ha : a < q) (hb : b < q) (e : ad a b = b) : a = 0 := by
  have k := h.ad_assoc a b (ng b) ha hb (h.ng_lt b hb)
  have hn : ad b (ng b) = 0 := by rw [h.ad_comm _ _ hb (h.ng_lt b hb), h.ng_ad _ hb]
  rw [e, hn, h.ad_zero a ha] at k
  exact k.symm
/-- The runs of a space. -/
noncomputable def rnL (q : Nat) (ad mu : Nat → Nat → Nat) (n : Nat) (S : List (List Nat)) : List (Nat → Nat) := by
  classical exact (liL q n fun v => decide (Spn q ad mu n S v)).map fun l c => l.getD c 0
theorem rnL_len (S : List (List Nat)) : (rnL q ad mu n S).length = cntV q n (Spn q ad mu n S) := by unfold rnL; rw [List.length_map]; exact len_cnt S
theorem rnL_hit (S : List (List Nat)) (cs : List Nat) (x : Nat → Nat) : hit (rnL q ad mu n S) cs x = cntV q n (fun v => Spn q ad mu n S v ∧ ∀ c ∈ cs, v.getD c 0 = x c) := cnt_hit S cs x
theorem rnL_mem (h : FqR q ad mu ng) {S : List (List Nat)} (hS : Rws q n S) {x : Nat → Nat} : x ∈ rnL q ad mu n S ↔ ∃ v, Spn q ad mu n S v ∧ x = fun c => v.getD c 0 := by
  classical
  unfold rnL liL
  simp only [List.mem_map, List.mem_filter, List.mem_range, decide_eq_true_eq]
  constructor
  · rintro ⟨v, ⟨c, ⟨_, hc⟩, rfl⟩, rfl⟩
    exact ⟨_, hc, rfl⟩
  · rintro ⟨v, hv, rfl⟩
    have hm := (mem_allV h.pos).2 (hv.vc h hS)
    unfold allV at hm
    obtain ⟨c, hc, rfl⟩ := List.mem_map.1 hm
    exact ⟨_, ⟨c, ⟨List.mem_range.1 hc, hv⟩, rfl⟩, rfl⟩
theorem strC_dual (h : FqR q ad mu ng) {S : List (List Nat)} (hS : Rws q n S) {cs : List Nat} (inc : cs.Pairwise (· < ·)) (hc : ∀ c ∈ cs, c < n) :
    StrC q (rnL q ad mu n S) cs ↔ ∀ v, Nrm q ad mu n S v → (∀ j, j < n → j ∉ cs → v.getD j 0 = 0) → v = zV n := by
  have hSp := Spn.spc h hS
  have hx : ∀ v, Spn q ad mu n S v → hit (rnL q ad mu n S) cs (fun c => v.getD c 0) = cntV q n (fun v => Spn q ad mu n S v ∧ ∀ c ∈ cs, v.getD c 0 = 0) := fun v hv => by
    rw [rnL_hit]
    have hvv := hv.vc h hS
    refine cnt_shift h hvv fun u hu => ?_
    constructor
    · rintro ⟨k1, k2⟩
      refine ⟨?_, fun c hcc => ?_⟩
      · have hm : Spn q ad mu n S (ngV ng n v) := by rw [ngV_sm h hvv]; exact hSp.sm _ _ (h.ng_lt 1 h.one) hv
        have := hSp.ad _ _ k1 hm
        rwa [adV_back h hu hvv] at this
      · have e := k2 c hcc
        rw [adV_at _ _ (hc c hcc)] at e
        exact ad_left h (hu.at h.pos c) (hvv.at h.pos c) e
    · rintro ⟨k1, k2⟩
      refine ⟨hSp.ad _ _ k1 hv, fun c hcc => ?_⟩
      rw [adV_at _ _ (hc c hcc), k2 c hcc]
      exact h.zero_ad (hvv.at h.pos c)
  rw [← cols_dual h hS inc hc]
  unfold StrC
  rw [rnL_len]
  constructor
  · intro k
    have := k (fun c => (zV n).getD c 0) ((rnL_mem h hS).2 ⟨zV n, Spn.zero, rfl⟩)
    rwa [hx _ Spn.zero] at this
  · intro k x hxm
    obtain ⟨v, hv, rfl⟩ := (rnL_mem h hS).1 hxm
    rw [hx v hv]
    exact k
theorem nod_len : ∀ {l m : List Nat}, l.Nodup → (∀ x ∈ l, x ∈ m) → l.length ≤ m.length
  | [], _, _, _ => by simp
  | a :: l, m, hd, hs => by
    have h1 := List.nodup_cons.1 hd
    have ha := hs a (by simp)
    have h2 : l.length ≤ (m.erase a).length := nod_len h1.2 fun x hx => (List.mem_erase_of_ne (fun e : x = a => h1.1 (by rw [← e]; exact hx))).2 (hs x (by simp [hx]))
    rw [List.length_erase_of_mem ha] at h2
    have : 0 < m.length := List.length_pos_of_mem ha
    simp only [List.length_cons]
    omega
/-- How many numbers but zero stand in a list. -/
def wtV (n : Nat) (v : List Nat) : Nat := ((List.range n).filter fun j => v.getD j 0 != 0).length
theorem zV_of {v : List Nat} (hv : v.length = n) (h : ∀ j, j < n → v.getD j 0 = 0) : v = zV n := by
  rw [← ofF_getD v hv]
  unfold zV ofF
  exact List.map_congr_left fun j hj => h j (List.mem_range.1 hj)
theorem str_dual (h : FqR q ad mu ng) {S : List (List Nat)} (hS : Rws q n S) {t : Nat} (ht : t ≤ n) : Str q n (rnL q ad mu n S) t ↔ ∀ v, Nrm q ad mu n S v → v ≠ zV n → t < wtV n v := by
  have hlv : Lvl q n (rnL q ad mu n S) := fun x hx c _ => by
    obtain ⟨v, hv, rfl⟩ := (rnL_mem h hS).1 hx
    exact (hv.vc h hS).at h.pos c
  constructor
  · intro k v hv hne
    refine Classical.byContradiction fun hw => hne ?_
    have hst := Str.low h.pos hlv ht k (wtV n v) (by omega)
    have inc : ((List.range n).filter fun j => v.getD j 0 != 0).Pairwise (· < ·) := List.pairwise_lt_range.filter _
    have hc : ∀ c ∈ (List.range n).filter fun j => v.getD j 0 != 0, c < n := fun c hc => List.mem_range.1 (List.mem_filter.1 hc).1
    refine (strC_dual h hS inc hc).1 (hst _ ⟨inc.imp fun h => Nat.ne_of_lt h, hc⟩ rfl) v hv fun j hj hjn => ?_
    refine Classical.byContradiction fun e => hjn (List.mem_filter.2 ⟨List.mem_range.2 hj, by simpa using e⟩)
  · intro k
    refine str_rise fun cs inc hc hl => (strC_dual h hS inc hc).2 fun v hv hz => ?_
    refine Classical.byContradiction fun hne => ?_
    have h1 := k v hv hne
    have h2 : wtV n v ≤ cs.length := by
      unfold wtV
      refine nod_len (List.nodup_range.filter _) ?_
      · intro j hj
        obtain ⟨h3, h4⟩ := List.mem_filter.1 hj
        refine Classical.byContradiction fun e => ?_
        rw [hz j (List.mem_range.1 h3) e] at h4
        simp at h4
    omega
theorem wt_le (n : Nat) (v : List Nat) : wtV n v ≤ n := by
  unfold wtV
  exact Nat.le_trans (List.length_filter_le _ _) (by simp)
/-- The strength of a space: one less than the least weight of what is normal to it. -/
theorem dual_least (h : FqR q ad mu ng) {S : List (List Nat)} (hS : Rws q n S) {t m : Nat} (hs : StrIs q n (rnL q ad mu n S) t)
    (hm : ∀ v, Nrm q ad mu n S v → v ≠ zV n → m ≤ wtV n v) (hx : m = n + 1 ∨ ∃ v, Nrm q ad mu n S v ∧ v ≠ zV n ∧ wtV n v = m) (h1 : 1 ≤ m) : t = m - 1 := by
  have hmn : m ≤ n + 1 := by
    rcases hx with e | ⟨v, _, _, e⟩
    · omega
    · have := wt_le n v; omega
  have hst : Str q n (rnL q ad mu n S) (m - 1) := (str_dual h hS (by omega)).2 fun v hv hne => by have := hm v hv hne; omega
  have hlv : Lvl q n (rnL q ad mu n S) := fun x hx c _ => by
    obtain ⟨v, hv, rfl⟩ := (rnL_mem h hS).1 hx
    exact (hv.vc h hS).at h.pos c
  have hge := hs.ge h.pos hlv (show m - 1 ≤ n by omega) hst
  have htn := hs.le
  rcases hx with e | ⟨v, hv, hne, e⟩
  · omega
  · have := (str_dual h hS htn).1 (hs.is t (Nat.le_refl t)) v hv hne
    omega
end
end Go.Proofs.YtjfjdidibglhaabDoor
