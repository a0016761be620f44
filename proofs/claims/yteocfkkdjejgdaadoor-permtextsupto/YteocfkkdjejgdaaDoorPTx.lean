/- The walks of Decimal and PermText. -/
import Derived.Test.YteocfkkdjejgdaaDoorPW
import Derived.Test.YteocfkkdjejgdaaDoorP25
namespace Go.Proofs.YteocfkkdjejgdaaDoor
open Go.RowKit

theorem cat2 (a b : List UInt8) : (⟨a.toArray⟩ : ByteArray) ++ (⟨b.toArray⟩ : ByteArray) = (⟨(a ++ b).toArray⟩ : ByteArray) := by
  apply ByteArray.ext
  simp
def digT : ByteArray := ⟨#[48, 49, 50, 51, 52, 53, 54, 55, 56, 57]⟩
theorem digT_at {d : Nat} (h : d < 10) : (⟨#[48, 49, 50, 51, 52, 53, 54, 55, 56, 57]⟩ : ByteArray).extract d (d + 1) = ⟨[UInt8.ofNat (48 + d)].toArray⟩ := by
  match d, h with
  | 0, _ | 1, _ | 2, _ | 3, _ | 4, _ | 5, _ | 6, _ | 7, _ | 8, _ | 9, _ => rfl
theorem dec_small {m : Nat} (h : m < 10) : dec m = [UInt8.ofNat (48 + m)] := by unfold dec; rw [if_pos h]
theorem dec_big {m : Nat} (h : ¬ m < 10) (h2 : m < 12) : dec m = dec (m / 10) ++ [UInt8.ofNat (48 + m % 10)] := by
  rw [dec_small (m := m / 10) (by omega)]
  unfold dec; rw [if_neg h]; rfl

set_option maxHeartbeats 1000000 in
theorem Decimal_any (x : Nat) (hx : x < 12) (w : World) : Calls Tryd.prog 16 #[.int .i64 (x : Int)] w fun e w' => e = .returned (.string ⟨(dec x).toArray⟩) ∧ w' = w := by
  obtain ⟨goal, Hgoal⟩ : ∃ g, Hid (dec x = g) := ⟨_, rfl⟩
  rw [Hgoal.out]
  go_enter Tryd.func16, Tryd.ntmps16
  go_wp2
  go_loop [0, 3] (fun nv sv => ∃ (m : Nat) (s : List UInt8), nv = .int .i64 m ∧ sv = .string ⟨s.toArray⟩ ∧ m < 12 ∧ Hid (dec m ++ s = goal)) (fun nv _ => (intOf nv).toNat)
  case atStart => exact ⟨x, [], rfl, rfl, hx, (by rw [List.append_nil]; exact Hgoal.out : dec x ++ [] = goal)⟩
  case round =>
    obtain ⟨m, s, rfl, rfl, hm, HS⟩ := hrel
    have hsl : s.length ≤ 2 := by
      have h1 := congrArg List.length HS.out
      have h2 := dec_len hx
      rw [List.length_append, ← Hgoal.out] at h1
      omega
    by_cases h10 : 10 ≤ m
    · have hd : decide ((10 : Int) ≤ (m : Int)) = true := decide_eq_true (by omega)
      obtain ⟨d, Hd⟩ : ∃ d, Hid (m % 10 = d) := ⟨_, rfl⟩
      obtain ⟨q, Hq⟩ : ∃ q, Hid (m / 10 = q) := ⟨_, rfl⟩
      have hd10 : d < 10 := by rw [← Hd.out]; omega
      have hq2 : q < 2 := by rw [← Hq.out]; omega
      have e1 : (m : Int) % 10 = (d : Int) := by rw [← Hd.out]; omega
      have e2 : (m : Int) / 10 = (q : Int) := by rw [← Hq.out]; omega
      have HN : Hid (dec q ++ ([UInt8.ofNat (48 + d)] ++ s) = goal) := by
        show dec q ++ ([UInt8.ofNat (48 + d)] ++ s) = goal
        rw [← HS.out, dec_big (by omega) hm, Hq.out, Hd.out, List.append_assoc]
      have e3 := digT_at hd10
      have hdi : (d : Int) < 10 := by omega
      go_wp2
      go_round
      case rel =>
        refine ⟨q, [UInt8.ofNat (48 + d)] ++ s, rfl, ?_, by omega, HN⟩
        have e : (48 + UInt8.ofNat d) = UInt8.ofNat (48 + d) := (UInt8.ofNat_add 48 d).symm
        rw [e]
        exact congrArg Value.string (cat2 [_] s)
      case measure => simp [intOf]; omega
    · have hd : decide ((10 : Int) ≤ (m : Int)) = false := decide_eq_false (by omega)
      have e3 := digT_at (d := m) (by omega)
      have HN : Hid ([UInt8.ofNat (48 + m)] ++ s = goal) := by
        show [UInt8.ofNat (48 + m)] ++ s = goal
        rw [← HS.out, dec_small (by omega)]
      have hmi : (m : Int) < 10 := by omega
      go_wp2
      have e : (48 + UInt8.ofNat m) = UInt8.ofNat (48 + m) := (UInt8.ofNat_add 48 m).symm
      go_ret
      refine ⟨?_, rfl⟩
      rw [e, ← HN.out]
      exact congrArg (fun z => Ending.returned (Value.string z)) (cat2 [_] s)

/-! ### cycles, one after the other -/
theorem joinS_snoc (l : List Nat) (x : Nat) : joinS (l ++ [x]) = if l = [] then dec x else joinS l ++ 32 :: dec x := by
  cases l with
  | nil => rw [if_pos rfl]; exact joinS_one x
  | cons y l =>
    rw [if_neg (by simp)]
    induction l generalizing y with
    | nil => rw [joinS_one]; show joinS [y, x] = _; rw [joinS_cons, joinS_one]
    | cons z l ih =>
      have := ih z
      show joinS (y :: z :: (l ++ [x])) = _
      rw [joinS_cons, joinS_cons]
      rw [show z :: (l ++ [x]) = z :: l ++ [x] from rfl, this]
      simp
/-- What is met ahead of i: the cycles of more than one point. -/
def Met (n : Nat) (f : Nat → Nat) (i : Nat) (u : Nat → Bool) : Prop := ∀ x, x < n → (u x = true ↔ ∃ i' k, i' < i ∧ f i' ≠ i' ∧ itr f k i' = x)
theorem itr_fix {f : Nat → Nat} {x : Nat} (h : f x = x) : ∀ k, itr f k x = x
  | 0 => rfl
  | k + 1 => by show f (itr f k x) = x; rw [itr_fix h k, h]
theorem per_one {n : Nat} {f : Nat → Nat} (P : Pm n f) {i : Nat} (hi : i < n) : per f i = 1 ↔ f i = i := by
  have hp := P.per hi
  constructor
  · intro h
    have := hp.1.2.2
    rw [h] at this
    exact this
  · intro h
    rcases Nat.lt_or_ge 1 (per f i) with h1 | h1
    · exact absurd h (hp.2 1 (Nat.le_refl _) h1)
    · omega
theorem Met.lead {n : Nat} {f : Nat → Nat} {i : Nat} {u : Nat → Bool} (M : Met n f i u) (P : Pm n f) (hi : i < n) : u i = !leadB n f i := by
  rw [Bool.eq_iff_iff, M i hi, Bool.not_eq_true', Bool.eq_false_iff, ne_eq, P.lead hi]
  constructor
  · rintro ⟨i', k, h1, _, h3⟩ h
    obtain ⟨j, hj⟩ := P.back (x := i') (k := k) (by omega)
    have := h j
    rw [h3] at hj
    omega
  · intro h
    rw [Classical.not_forall] at h
    obtain ⟨k, hk⟩ := h
    obtain ⟨j, hj⟩ := P.back (x := i) (k := k) hi
    refine ⟨itr f k i, j, by omega, fun e => ?_, hj⟩
    rw [itr_fix e j] at hj
    omega
theorem permS_skip {n : Nat} {f : Nat → Nat} {i : Nat} (P : Pm n f) (hi : i < n) (h : leadB n f i = false ∨ f i = i) : permS n f (i + 1) = permS n f i := by
  unfold permS bigs
  rw [cycs_succ, List.filter_append, List.flatMap_append]
  rcases h with h | h
  · simp [h]
  · have : per f i = 1 := (per_one P hi).2 h
    have h2 : (cycL f i).length = 1 := by rw [cycL_length, this]
    cases leadB n f i <;> simp [h2]
theorem permS_more {n : Nat} {f : Nat → Nat} {i : Nat} (P : Pm n f) (hi : i < n) (h : leadB n f i = true) (hf : f i ≠ i) : permS n f (i + 1) = permS n f i ++ cycT (cycL f i) := by
  unfold permS bigs
  rw [cycs_succ, List.filter_append, List.flatMap_append]
  have hp := (P.per hi).1
  have h1 : per f i ≠ 1 := fun e => hf ((per_one P hi).1 e)
  have h2 : 1 < (cycL f i).length := by rw [cycL_length]; omega
  simp [h, h2]
theorem Met.skip {n : Nat} {f : Nat → Nat} {i : Nat} {u : Nat → Bool} (M : Met n f i u) (hi : i < n) (h : u i = true ∨ f i = i) : Met n f (i + 1) u := by
  intro x hx
  rw [M x hx]
  constructor
  · rintro ⟨i', k, h1, h2, h3⟩; exact ⟨i', k, by omega, h2, h3⟩
  · rintro ⟨i', k, h1, h2, h3⟩
    by_cases e : i' = i
    · subst e
      rcases h with h | h
      · obtain ⟨i0, j, a1, a2, a3⟩ := (M i' hi).1 h
        exact ⟨i0, k + j, a1, a2, by rw [itr_add, a3, h3]⟩
      · exact absurd h h2
    · exact ⟨i', k, by omega, h2, h3⟩
theorem Met.more {n : Nat} {f : Nat → Nat} {i : Nat} {u v : Nat → Bool} (M : Met n f i u) (P : Pm n f) (hi : i < n) (hf : f i ≠ i) (h : ∀ x, x < n → (v x = true ↔ u x = true ∨ ∃ k, k < per f i ∧ itr f k i = x)) : Met n f (i + 1) v := by
  intro x hx
  rw [h x hx, M x hx]
  constructor
  · rintro (⟨i', k, h1, h2, h3⟩ | ⟨k, _, h3⟩)
    · exact ⟨i', k, by omega, h2, h3⟩
    · exact ⟨i, k, by omega, hf, h3⟩
  · rintro ⟨i', k, h1, h2, h3⟩
    by_cases e : i' = i
    · subst e
      right
      refine ⟨k % per f i', Nat.mod_lt _ (by have := (P.per hi).1; omega), ?_⟩
      rw [← P.itr_mod hi]; exact h3
    · left; exact ⟨i', k, by omega, h2, h3⟩
theorem met_not {n : Nat} {f : Nat → Nat} {i q : Nat} {u v : Nat → Bool} (M : Met n f i u) (P : Pm n f) (hi : i < n) (hl : leadB n f i = true) (hq : q < per f i) (h : ∀ x, x < n → (v x = true ↔ u x = true ∨ ∃ k, k < q ∧ itr f k i = x)) : v (itr f q i) = false := by
  rw [Bool.eq_false_iff]
  intro e
  rcases (h _ (P.itr_lt hi q)).1 e with e | ⟨k, hk, e⟩
  · obtain ⟨i', j, h1, _, h3⟩ := (M _ (P.itr_lt hi q)).1 e
    exact met_in P hi hl ⟨i', j, h1, h3⟩
  · have := P.itr_ne hi (by omega) hq e
    omega

def strLen : Value → Nat
  | .string s => s.size
  | _ => 0
theorem strLen_list (l : List UInt8) : strLen (.string ⟨l.toArray⟩) = l.length := by show l.toArray.size = _; simp
theorem take_snoc {l : List Nat} {q : Nat} (h : q < l.length) : l.take (q + 1) = l.take q ++ [l.getD q 0] := by
  rw [List.take_add_one, List.getElem?_eq_getElem h]; simp [List.getD_eq_getElem?_getD, h]
theorem cycL_at {f : Nat → Nat} {i q : Nat} (h : q < per f i) : (cycL f i).getD q 0 = itr f q i := by simp [cycL, h]

set_option maxRecDepth 100000 in
set_option maxHeartbeats 4000000 in
theorem PermText_any (n : Nat) (f : Nat → Nat) (v : Value) (w : World) (hn : n ≤ 12) (hv : Sl w v (pl n f)) (P : Pm n f) :
    Calls Tryd.prog 7 #[v] w fun e w' => e = .returned (.string ⟨(permT n f).toArray⟩) ∧ Below w.heap.size w w' := by
  obtain ⟨i4, qi, qz0, qz1, qz2⟩ := info4
  have C := fun x (h : x < 12) A => Decimal_any x h A
  obtain ⟨a, ca, rfl, hcv⟩ := hv
  rw [pl_len] at hcv ⊢
  have HV : Hid (∀ j, j < n → ∃ B off, a = some ⟨B, off, none⟩ ∧ w.cell? ⟨B, off + j, none⟩ = some (.int .i64 (f j : Int))) := fun j hj => by
    have := hcv j hj; rw [pl_at f hj] at this; exact this
  have HP : Hid (Pm n f) := P
  obtain ⟨goal, Hgoal⟩ : ∃ g, Hid (permT n f = g) := ⟨_, rfl⟩
  rw [Hgoal.out]
  clear hcv P
  go_enter Tryd.func7, Tryd.ntmps7
  go_wp2_with (first
    | (at_make; refine wpList_make_full _ rfl _ _ 37 rfl w.heap.size 4 i4 (.bool false) 1 und52 qi qz0 qz1 .i64 .i64 (n : Int) (n : Int) n rfl rfl rfl rfl ?c1 ?c2 (Nat.le_refl _) ?_))
  case c1 => first | (rw [qz2]; omega) | omega
  case c2 => unfold maxLen; omega
  intro w1 how1 hgr1
  have hO1 := ownB_made how1
  have hb1 : Below w.heap.size w w1 := ⟨hgr1.os, hgr1.tape, hgr1.output, hgr1.size, fun k hk => hgr1.block k hk (by simp)⟩
  clear how1 hgr1
  go_wp2
  go_loopw [3, 5] (fun sv iv wr => ∃ (i : Nat) (u : Nat → Bool) (s : List UInt8), sv = .string ⟨s.toArray⟩ ∧ iv = .int .i64 i ∧ i ≤ n ∧ OwnB wr w.heap.size n u ∧ Hid (Met n f i u) ∧ Hid (permS n f i = s) ∧ Below w.heap.size w wr) (fun _ iv _ => (n - intOf iv).toNat)
  case atStart =>
    refine ⟨0, _, [], rfl, rfl, by omega, hO1, ?_, (rfl : permS n f 0 = []), hb1⟩
    intro x _
    constructor
    · intro h; cases h
    · rintro ⟨i', k, h, _⟩; omega
  case round =>
    clear hO1 hb1
    obtain ⟨i, u, s, rfl, rfl, hi, hO, HM, HS, hB⟩ := hrel
    have hsl : s.length ≤ 600 := by
      rw [← HS.out]
      have h1 := bigT_len (cycs n f i) (fun c hc => by
        obtain ⟨j, hj, rfl⟩ := List.mem_map.1 hc
        have hj := (mem_leads.1 hj).1
        have hp := (HP.out.per (x := j) (by omega)).1
        refine ⟨by rw [cycL_length]; omega, fun x hx => ?_⟩
        have := cycL_lt HP.out (i := j) (by omega) x hx
        omega)
      have h2 := cycs_len_le n f i
      show (bigT (cycs n f i)).length ≤ 600
      omega
    by_cases hin : i < n
    · have hini : (i : Int) < n := by omega
      have hind : decide ((i : Int) < n) = true := decide_eq_true hini
      have hcu := hO.cell i hin
      obtain ⟨B, off, rfl, hck⟩ := HV.out i hin
      have hBw : B < w.heap.size := by simpa using block_lt_of_cell hck
      have hck2 := (hB.cell (p := ⟨B, off + i, none⟩) hBw).trans hck
      obtain ⟨t, Ht⟩ : ∃ t, Hid (f i = t) := ⟨_, rfl⟩
      rw [Ht.out] at hck2
      clear hck
      cases hui : u i with
      | true =>
        rw [hui] at hcu
        have HS2 : Hid (permS n f (i + 1) = s) := by
          show permS n f (i + 1) = s
          rw [permS_skip HP.out hin, HS.out]
          have := HM.out.lead HP.out hin
          rw [hui] at this
          left
          cases hl : leadB n f i
          · rfl
          · rw [hl] at this; cases this
        have HM2 : Hid (Met n f (i + 1) u) := HM.out.skip hin (.inl hui)
        go_wp2
        go_roundw
        case rel => exact ⟨i + 1, u, s, rfl, by go_num, by omega, hO, HM2, HS2, hB⟩
        case measure => simp [intOf]; omega
      | false =>
        rw [hui] at hcu
        by_cases hti : t = i
        · have hde : ((t : Int) == (i : Int)) = true := by simp; omega
          have hfi : f i = i := by rw [Ht.out, hti]
          have HS2 : Hid (permS n f (i + 1) = s) := by
            show permS n f (i + 1) = s
            rw [permS_skip HP.out hin (.inr hfi), HS.out]
          have HM2 : Hid (Met n f (i + 1) u) := HM.out.skip hin (.inr hfi)
          clear hti hfi
          go_wp2
          go_roundw
          case rel => exact ⟨i + 1, u, s, rfl, by go_num, by omega, hO, HM2, HS2, hB⟩
          case measure => simp [intOf]; omega
        · have hde : ((t : Int) == (i : Int)) = false := by simp; omega
          have hfi : f i ≠ i := by rw [Ht.out]; exact hti
          have hl : leadB n f i = true := by
            have := HM.out.lead HP.out hin
            rw [hui] at this
            cases hl : leadB n f i
            · rw [hl] at this; cases this
            · rfl
          have HS2 : Hid (permS n f (i + 1) = s ++ cycT (cycL f i)) := by
            show permS n f (i + 1) = _
            rw [permS_more HP.out hin hl hfi, HS.out]
          have HLd : Hid (leadB n f i = true) := hl
          have HFi : Hid (f i ≠ i) := hfi
          obtain ⟨p, Hp⟩ : ∃ p, Hid (per f i = p) := ⟨_, rfl⟩
          have hper := (HP.out.per hin).1
          rw [Hp.out] at hper
          obtain ⟨hp1, hp2, hp3⟩ := hper
          have HR : Hid (itr f p i = i) := hp3
          have HCL : Hid ((cycL f i).length = p) := by show (cycL f i).length = p; rw [cycL_length, Hp.out]
          have HC12 : Hid (∀ x ∈ cycL f i, x < 12) := fun x hx => by have := cycL_lt HP.out hin x hx; omega
          clear hl hfi hti hp3
          go_wp2
          go_loopw [6, 7] (fun tv xv wr => ∃ (q x : Nat) (u' : Nat → Bool) (tt : List UInt8), tv = .string ⟨tt.toArray⟩ ∧ xv = .int .i64 x ∧ q ≤ p ∧ Hid (itr f q i = x) ∧ Hid (tt = 40 :: joinS ((cycL f i).take q)) ∧ OwnB wr w.heap.size n u' ∧ Hid (∀ x, x < n → (u' x = true ↔ u x = true ∨ ∃ k, k < q ∧ itr f k i = x)) ∧ Below w.heap.size w wr) (fun tv _ _ => 40 - strLen tv)
          case atStart =>
            refine ⟨0, i, u, [40], rfl, rfl, by omega, (rfl : itr f 0 i = i), ?_, hO, ?_, hB⟩
            · show [40] = 40 :: joinS ((cycL f i).take 0)
              rw [List.take_zero, joinS_nil]
            · intro x _
              constructor
              · exact .inl
              · rintro (h | ⟨k, h, _⟩)
                · exact h
                · omega
          case round =>
            clear hO hB hcu hck2
            obtain ⟨q, x, u', tt, rfl, rfl, hq, Hx, HT, hO, HU, hB⟩ := hrel
            have hxn : x < n := by rw [← Hx.out]; exact HP.out.itr_lt hin q
            have hxi : (x : Int) < n := by omega
            have hcx := hO.cell x hxn
            have hfx := hO.frozen x
            by_cases hqp : q < p
            · have hnot : u' x = false := by
                rw [← Hx.out]
                exact met_not HM.out HP.out hin HLd.out (by rw [Hp.out]; exact hqp) HU.out
              rw [hnot] at hcx
              obtain ⟨B', off', e', hcy⟩ := HV.out x hxn
              simp only [Option.some.injEq, Addr.mk.injEq, and_true] at e'
              obtain ⟨rfl, rfl⟩ := e'
              have hcy2 := (hB.cell (p := ⟨B, off + x, none⟩) hBw).trans hcy
              obtain ⟨y, Hy⟩ : ∃ y, Hid (f x = y) := ⟨_, rfl⟩
              rw [Hy.out] at hcy2
              have HY : Hid (itr f (q + 1) i = y) := by show f (itr f q i) = y; rw [Hx.out, Hy.out]
              have hcy3 : (wr.setCell ⟨w.heap.size, x, none⟩ (.bool true)).cell? ⟨B, off + x, none⟩ = some (.int .i64 (y : Int)) := by
                have hb' : Below w.heap.size wr (wr.setCell ⟨w.heap.size, x, none⟩ (.bool true)) := (Below.refl _ _).setCell (p := ⟨w.heap.size, x, none⟩) (Nat.le_refl _) _
                rw [hb'.cell (p := ⟨B, off + x, none⟩) hBw]; exact hcy2
              have D := fun A => C x (by omega) A
              obtain ⟨dx, Hdx⟩ : ∃ dx, Hid (dec x = dx) := ⟨_, rfl⟩
              rw [Hdx.out] at D
              have hdl : 1 ≤ dx.length := by rw [← Hdx.out]; exact List.length_pos_iff.2 (dec_ne (by omega))
              have hdl2 : dx.length ≤ 2 := by rw [← Hdx.out]; exact dec_len (by omega)
              have hO' := hO.set x
              have hB' := hB.setCell (p := ⟨w.heap.size, x, none⟩) (Nat.le_refl _) (.bool true)
              have HU2 : Hid (∀ z, z < n → (upU u' x z = true ↔ u z = true ∨ ∃ k, k < q + 1 ∧ itr f k i = z)) := by
                intro z hz
                unfold upU
                by_cases e : z = x
                · subst e
                  rw [if_pos rfl]
                  exact ⟨fun _ => .inr ⟨q, by omega, Hx.out⟩, fun _ => rfl⟩
                · rw [if_neg e, HU.out z hz]
                  constructor
                  · rintro (h | ⟨k, hk, h⟩)
                    · exact .inl h
                    · exact .inr ⟨k, by omega, h⟩
                  · rintro (h | ⟨k, hk, h⟩)
                    · exact .inl h
                    · by_cases e2 : k = q
                      · subst e2; exact absurd (h.symm.trans Hx.out) e
                      · exact .inr ⟨k, by omega, h⟩
              have hsn : (cycL f i).take (q + 1) = (cycL f i).take q ++ [x] := by
                rw [take_snoc (by rw [HCL.out]; exact hqp), cycL_at (by rw [Hp.out]; exact hqp), Hx.out]
              have hjl : Hid ((joinS ((cycL f i).take q)).length ≤ 36) := by
                have h1 := (joinS_len ((cycL f i).take q) (fun z hz => HC12.out z (List.mem_of_mem_take hz))).2
                have h2 : ((cycL f i).take q).length ≤ q := by rw [List.length_take]; omega
                show (joinS ((cycL f i).take q)).length ≤ 36
                omega
              have htl : tt.length ≤ 37 := by rw [HT.out, List.length_cons]; have := hjl.out; omega
              by_cases hq0 : q = 0
              · subst hq0
                have hxe : x = i := by rw [← Hx.out]; rfl
                have hne : ((x : Int) != (i : Int)) = false := by simp; omega
                have HT2 : Hid (tt ++ dx = 40 :: joinS ((cycL f i).take (0 + 1))) := by
                  show tt ++ dx = 40 :: joinS ((cycL f i).take (0 + 1))
                  rw [hsn, joinS_snoc, List.take_zero, if_pos rfl, HT.out, List.take_zero, joinS_nil, Hdx.out]; rfl
                clear hsn hxe
                go_wp2_with (first
                  | (go_at_call 16; refine (D _).mono ?_; rintro e w5 ⟨rfl, hw⟩; replace hw := hw.symm; subst hw))
                go_roundw
                case rel => exact ⟨0 + 1, y, upU u' x, tt ++ dx, by rw [cat2], rfl, by omega, HY, HT2, hO', HU2, hB'⟩
                case measure => rw [cat2, strLen_list, strLen_list, List.length_append]; omega
              · have hxe : x ≠ i := fun e => by
                  have := HP.out.itr_ne hin (i := q) (j := 0) (by rw [Hp.out]; exact hqp) (by rw [Hp.out]; omega) (by rw [Hx.out, e]; rfl)
                  omega
                have hne : ((x : Int) != (i : Int)) = true := by simp; omega
                have HT2 : Hid (tt ++ [32] ++ dx = 40 :: joinS ((cycL f i).take (q + 1))) := by
                  show tt ++ [32] ++ dx = 40 :: joinS ((cycL f i).take (q + 1))
                  rw [hsn, joinS_snoc, if_neg, HT.out, Hdx.out]
                  · simp
                  · intro e
                    have := congrArg List.length e
                    rw [List.length_take, HCL.out, List.length_nil] at this
                    omega
                clear hsn hxe
                go_wp2_with (first
                  | (go_at_call 16; refine (D _).mono ?_; rintro e w5 ⟨rfl, hw⟩; replace hw := hw.symm; subst hw))
                go_roundw
                case rel => exact ⟨q + 1, y, upU u' x, tt ++ [32] ++ dx, by rw [← cat2, ← cat2], rfl, by omega, HY, HT2, hO', HU2, hB'⟩
                case measure => rw [show (⟨tt.toArray⟩ : ByteArray) ++ ⟨#[32]⟩ ++ ⟨dx.toArray⟩ = ⟨(tt ++ [32] ++ dx).toArray⟩ by rw [← cat2, ← cat2], strLen_list, strLen_list]; simp; omega
            · obtain rfl : q = p := by omega
              have hxe : x = i := by rw [← Hx.out, HR.out]
              have htl : tt.length ≤ 37 := by
                have h1 := (joinS_len ((cycL f i).take q) (fun z hz => HC12.out z (List.mem_of_mem_take hz))).2
                have h2 : ((cycL f i).take q).length ≤ q := by rw [List.length_take]; omega
                rw [HT.out, List.length_cons]; omega
              have hyes : u' x = true := (HU.out x hxn).2 (.inr ⟨0, by omega, by rw [hxe]; rfl⟩)
              rw [hyes] at hcx
              have HM2 : Hid (Met n f (i + 1) u') := HM.out.more HP.out hin HFi.out (by rw [Hp.out]; exact HU.out)
              have HS3 : Hid (permS n f (i + 1) = s ++ tt ++ [41]) := by
                show permS n f (i + 1) = s ++ tt ++ [41]
                rw [HS2.out, HT.out, List.take_of_length_le (by rw [HCL.out]; exact Nat.le_refl _), List.append_assoc]; rfl
              clear hxe hyes
              go_wp2
              go_roundw
              case rel => exact ⟨i + 1, u', s ++ tt ++ [41], by rw [← cat2, ← cat2], by go_num, by omega, hO, HM2, HS3, hB⟩
              case measure => simp [intOf]; omega
    · obtain rfl : i = n := by omega
      have hid : decide ((i : Int) < (i : Int)) = false := by simp
      have HE : Hid (goal = if s = [] then [40, 41] else s) := by
        show goal = _
        rw [← Hgoal.out, ← HS.out]; rfl
      have HE2 := HE.out
      by_cases h0 : s = []
      · rw [if_pos h0] at HE2
        subst h0 HE2
        go_wp2
        go_ret
        exact ⟨rfl, hB⟩
      · rw [if_neg h0] at HE2
        subst HE2
        have hd0 : (goal == []) = false := by simpa using h0
        have hd1 : goal.isEmpty = false := by simpa using h0
        go_wp2
        go_ret
        exact ⟨rfl, hB⟩

end Go.Proofs.YteocfkkdjejgdaaDoor
