/- The walk of the document's ParallelOf. -/
import Derived.Test.YtnnopfdckillpaaDoorDCa
import Derived.Test.YtnnopfdckillpaaDoorH8
import Derived.Test.YtnnopfdckillpaaDoorDPart
namespace Go.Proofs.YtnnopfdckillpaaDoor
open Go.RowKit

theorem countP_or {p q : Nat → Bool} : ∀ {l : List Nat}, (∀ x ∈ l, p x = true → q x = true → False) → l.countP (fun x => p x || q x) = l.countP p + l.countP q
  | [], _ => rfl
  | y :: l, h => by
    have ih := countP_or (l := l) fun x hx => h x (by simp [hx])
    have hy := h y (by simp)
    rw [List.countP_cons, List.countP_cons, List.countP_cons, ih]
    cases e1 : p y <;> cases e2 : q y
    · simp
    · simp; omega
    · simp; omega
    · exact (hy e1 e2).elim
/-- Where the document's search stands. -/
structure PoI (v : Nat) (B : List (List Nat)) (k n : Nat) (D : Nat → Bool) (l : List Nat) : Prop where
  go : goD (l.map fun i => B.getD i []) (fun _ => false) = some D
  fc : fcB v B 0 (fun _ => false) = (fcB v (B.drop k) k D).map (l ++ ·)
  cnt : n = (List.range v).countP D
  lt : ∀ i ∈ l, i < k
theorem PoI.zero (v : Nat) (B : List (List Nat)) : PoI v B 0 0 (fun _ => false) [] where
  go := rfl
  fc := by
    rw [List.drop_zero]
    cases fcB v B 0 (fun _ => false) <;> rfl
  cnt := by rw [List.countP_eq_zero.2]; simp
  lt := fun i h => by simp at h
theorem PoI.can {v k n : Nat} {B : List (List Nat)} {D : Nat → Bool} {l : List Nat} (h : PoI v B k n D l) (hb : B.getD k [] ≠ []) : canB v B (k + 1) (l ++ [k]) = (fitD D (B.getD k []) && ccB v (B.drop (k + 1)) (addD D (B.getD k []))) := by
  unfold canB
  rw [List.map_append, goD_append, h.go]
  show (match goD [B.getD k []] D with | none => false | some D => ccB v (B.drop (k + 1)) D) = _
  unfold goD
  have hf : fitD D (B.getD k []) = ((B.getD k []).all fun x => !D x) := by
    unfold fitD
    cases e : B.getD k [] with
    | nil => exact (hb e).elim
    | cons x l => rfl
  rw [hf]
  by_cases e : ((B.getD k []).all fun x => !D x) = true
  · rw [if_pos e, e]; rfl
  · rw [if_neg e, Bool.eq_false_iff.2 e]; rfl
theorem PoI.pass {v k n : Nat} {B : List (List Nat)} {D : Nat → Bool} {l : List Nat} (h : PoI v B k n D l) (hk : k < B.length) (hn : (fitD D (B.getD k []) && ccB v (B.drop (k + 1)) (addD D (B.getD k []))) = false) : PoI v B (k + 1) n D l where
  go := h.go
  fc := by
    rw [h.fc, drop_cons hk]
    show Option.map _ (if (fitD D (B.getD k []) && ccB v (B.drop (k + 1)) (addD D (B.getD k []))) = true then _ else _) = _
    rw [hn]; rfl
  cnt := h.cnt
  lt := fun i hi => by have := h.lt i hi; omega
theorem PoI.take {v k n : Nat} {B : List (List Nat)} {D : Nat → Bool} {l : List Nat} (h : PoI v B k n D l) (hB : Bls v B) (hk : k < B.length) (hn : (fitD D (B.getD k []) && ccB v (B.drop (k + 1)) (addD D (B.getD k []))) = true) : PoI v B (k + 1) (n + (B.getD k []).length) (addD D (B.getD k [])) (l ++ [k]) where
  go := by
    rw [List.map_append, goD_append, h.go]
    show goD [B.getD k []] D = _
    unfold goD
    rw [Bool.and_eq_true] at hn
    rw [if_pos (List.all_eq_true.2 fun y hy => by rw [(fitD_iff.1 hn.1).2 y hy]; rfl)]
    rfl
  fc := by
    rw [h.fc, drop_cons hk]
    show Option.map _ (if (fitD D (B.getD k []) && ccB v (B.drop (k + 1)) (addD D (B.getD k []))) = true then (fcB v (B.drop (k + 1)) (k + 1) (addD D (B.getD k []))).map (k :: ·) else _) = _
    rw [if_pos hn, Option.map_map]
    cases fcB v (B.drop (k + 1)) (k + 1) (addD D (B.getD k [])) with
    | none => rfl
    | some r => simp
  cnt := by
    rw [Bool.and_eq_true] at hn
    have hm : B.getD k [] ∈ B := by rw [List.getD_eq_getElem?_getD, List.getElem?_eq_getElem hk]; exact List.getElem_mem hk
    have e := countP_or (p := D) (q := fun x => (B.getD k []).contains x) (l := List.range v) fun x _ h1 h2 => by
      rw [(fitD_iff.1 hn.1).2 x (List.contains_iff_mem.1 h2)] at h1; cases h1
    have e2 := countP_pts (hB _ hm) (fun _ => true)
    simp only [Bool.and_true, List.countP_true] at e2
    show _ = (List.range v).countP (fun x => D x || (B.getD k []).contains x)
    rw [e, ← h.cnt, e2]
  lt := fun i hi => by
    rcases List.mem_append.1 hi with h1 | h1
    · have := h.lt i h1; omega
    · simp at h1; omega
theorem PoI.le {v k n : Nat} {B : List (List Nat)} {D : Nat → Bool} {l : List Nat} (h : PoI v B k n D l) : n ≤ v := by
  rw [h.cnt]; exact Nat.le_trans List.countP_le_length (by simp)
theorem PoI.endFull {v k n : Nat} {B : List (List Nat)} {D : Nat → Bool} {l : List Nat} (h : PoI v B k n D l) (hB : Bls v B) (hn : n = v) : fcB v B 0 (fun _ => false) = some l := by
  have hf : fullD v D = true := fullD_iff.2 fun x hx => by
    have h1 : (List.range v).countP D = (List.range v).length := by rw [← h.cnt, hn]; simp
    exact List.countP_eq_length.1 h1 x (List.mem_range.2 hx)
  rw [h.fc, fc_full hf fun c hc => hB c (List.mem_of_mem_drop hc)]
  simp
theorem PoI.endAll {v n : Nat} {B : List (List Nat)} {D : Nat → Bool} {l : List Nat} (h : PoI v B B.length n D l) (hc : ccB v B (fun _ => false) = true) : fcB v B 0 (fun _ => false) = some l := by
  have h1 := h.fc
  rw [List.drop_length] at h1
  have h2 : (fcB v B 0 (fun _ => false)).isSome = true := by rw [fcB_some]; exact hc
  rw [h1] at h2 ⊢
  unfold fcB at h2 ⊢
  by_cases e : fullD v D = true
  · rw [if_pos e]; simp
  · rw [if_neg e] at h2; simp at h2
theorem own_emptyP (w : World) (base : Nat) (h : base ≤ w.heap.size) : (w.alloc (.cells #[] 3)).ownsRow base 3 1 (.slice (some ⟨w.heap.size, 0, none⟩) 0 0) 0 [] :=
  ⟨rfl, .inr ⟨w.heap.size, 0, #[], rfl, h, heap_alloc_new w _, Nat.le_refl _, by unfold maxLen; omega, rfl, rfl⟩⟩

set_option maxRecDepth 100000 in
set_option maxHeartbeats 4000000 in
theorem ParallelOf_any (v : Nat) (B : List (List Nat)) (u : Value) (w : World) (G : GoodD v B) (hu : Rw w u (toZ B)) (hcap : ∀ a n c, u = .slice a n c → n ≤ c) :
    Calls Tryd.prog 21 #[.agg #[.int .i64 (v : Int), u]] w fun e w' => ((fcB v B 0 (fun _ => false) = none ∧ e = .returned (.tuple #[.slice none 0 0, .int .i64 4])) ∨ ∃ l x, fcB v B 0 (fun _ => false) = some l ∧ e = .returned (.tuple #[x, .int .i64 0]) ∧ Sl w' x (l.map Int.ofNat)) ∧ Below w.heap.size w w' := by
  have HC : Hid (∀ W, Below (w.alloc (.cells #[.int .i64 (v : Int), u] 24)).heap.size (w.alloc (.cells #[.int .i64 (v : Int), u] 24)) W → W.cell? ⟨w.heap.size, 0, none⟩ = some (.int .i64 (v : Int)) ∧ W.cell? ⟨w.heap.size, 1, none⟩ = some u) := des_box v u w
  obtain ⟨w0, Hw0⟩ : ∃ w0, Hid (w0 = w.alloc (.cells #[.int .i64 (v : Int), u] 24)) := ⟨_, rfl⟩
  rw [← Hw0.out] at HC
  have hb0 : Below w.heap.size w w0 := by rw [Hw0.out]; exact balloc _ _
  have HB0 : Hid (Below w.heap.size w w0) := hb0
  have h200 := G.few
  have hv40 := G.le
  obtain ⟨i3, hi3, hz0, hz1, hz2⟩ := info3
  have C1 := CanCut_any v 0 B [] u (.slice none 0 0) w0 G (hu.below hb0) (Sl.nil _) (fun i h => by simp at h) (by simp) (by omega) hcap
  have hc0 : canB v B 0 [] = ccB v B (fun _ => false) := by unfold canB; rfl
  rw [hc0] at C1
  have CC : Hid (∀ (k : Nat) (l : List Nat) (x : Value) (W : World), Below w0.heap.size w0 W → Sl W x (l.map Int.ofNat) → (∀ i ∈ l, i < B.length) → l.length ≤ 200 → k < B.length → Calls Tryd.prog 37 #[.agg #[.int .i64 (v : Int), u], .int .i64 ((k : Int) + 1), x] W fun e w' => e = .returned (.bool (canB v B (k + 1) l)) ∧ Below W.heap.size W w') := fun k l x W hW hx h1 h2 h3 => by
    have := CanCut_any v (k + 1) B l u x W G (hu.below (Below.next hb0 hW)) hx h1 h2 (by omega) hcap
    rwa [show ((k + 1 : Nat) : Int) = (k : Int) + 1 by omega] at this
  have HSN : Hid ((fcB v B 0 (fun _ => false)).isSome = ccB v B (fun _ => false)) := fcB_some
  obtain ⟨a, cap, rfl, hD⟩ := drow_of hu
  have HD : Hid (DRow w a B) := hD
  have HAT : Hid (∀ i, i < B.length → ∃ b, B[i]? = some b ∧ B.getD i [] = b) := fun i hi => ⟨_, List.getElem?_eq_getElem hi, by rw [List.getD_eq_getElem?_getD, List.getElem?_eq_getElem hi]; rfl⟩
  have HBls : Hid (Bls v B) := G.bls
  have HBL : Hid (∀ b ∈ B, b.length ≤ v) := fun b hb => (G.bls b hb).le
  have HEA : Hid (∀ n D l, PoI v B B.length n D l → ccB v B (fun _ => false) = true → fcB v B 0 (fun _ => false) = some l) := fun n D l h1 h2 => h1.endAll h2
  have HEF : Hid (∀ k D l, PoI v B k v D l → fcB v B 0 (fun _ => false) = some l) := fun k D l h => h.endFull G.bls rfl
  obtain ⟨x0, x1⟩ := HC.out _ (Below.refl _ _)
  rw [Hw0.out] at x0 x1
  obtain ⟨F, HF⟩ : ∃ F, Hid (fcB v B 0 (fun _ => false) = F) := ⟨_, rfl⟩
  rw [HF.out] at HSN HEA HEF ⊢
  obtain ⟨r, Hr⟩ : ∃ r, Hid (ccB v B (fun _ => false) = r) := ⟨_, rfl⟩
  rw [Hr.out] at HSN HEA C1
  have HLB : Hid (∀ i, i < B.length → B.length = B.length) := fun _ _ => rfl
  generalize hBn : B.length = bn at *
  clear hu hcap hb0 hD G hc0 HLB
  cases r with
  | false =>
    have hFn : F = none := by have := HSN.out; cases F with | none => rfl | some x => simp at this
    go_enter Tryd.func21, Tryd.ntmps21
    go_wp2_with (go_at_call 37; rw [← Hw0.out]; refine C1.mono ?_; rintro e w1 ⟨rfl, hb1⟩; clear C1)
    exact bodyPost_ret (v := .tuple #[.slice none 0 0, .int .i64 4]) (by simp [results, Tryd.results21, go_sem]) rfl ⟨.inl ⟨hFn, rfl⟩, Below.next HB0.out hb1⟩
  | true =>
    go_enter Tryd.func21, Tryd.ntmps21
    go_wp2_with (go_at_call 37; rw [← Hw0.out]; refine C1.mono ?_; rintro e w1 ⟨rfl, hb1⟩; clear C1)
    go_loopw [4, 6, 7] (fun ov nv kv wr => ∃ (k n : Nat) (D : Nat → Bool) (l : List Nat), kv = .int .i64 (k : Int) ∧ nv = .int .i64 (n : Int) ∧ k ≤ bn ∧ n ≤ v ∧ l.length ≤ k ∧ (l = [] → ov = .slice none 0 0) ∧ wr.ownsRow w0.heap.size 3 1 ov l.length ((l.map Int.ofNat).map (Value.int .i64)) ∧ Below w0.heap.size w0 wr ∧ Hid (PoI v B k n D l)) (fun _ _ kv _ => (bn - intOf kv).toNat)
    case atStart => exact ⟨0, 0, _, [], rfl, rfl, by omega, by omega, by simp, fun _ => rfl, World.ownsRow_nil _ _ _ _, hb1, PoI.zero v B⟩
    case round =>
      clear hb1 x0 x1
      obtain ⟨k, n, D, l, rfl, rfl, hk, hn, hll, hnil, hown, hB, HP⟩ := hrel
      obtain ⟨y0, y1⟩ := HC.out _ hB
      have hbz := hB.size
      by_cases hkb : k < bn
      · have hd : decide ((k : Int) < (bn : Int)) = true := by simp; omega
        have hki : (k : Int) < (bn : Int) := by omega
        by_cases hnv : n < v
        · have hdn : decide ((n : Int) < (v : Int)) = true := by simp; omega
          have hdn2 : decide (n < v) = true := decide_eq_true hnv
          obtain ⟨b, hbi, hgd⟩ := HAT.out k hkb
          obtain ⟨bb, off, ua, uc, rfl, hrow⟩ := HD.out k b hbi
          obtain ⟨hr, -⟩ := hrow _ (Below.next HB0.out hB)
          have HRW : Hid (∀ W, Below w0.heap.size w0 W → W.cell? ⟨bb, off + k, none⟩ = some (.slice ua b.length uc)) := fun W hW => (hrow W (Below.next HB0.out hW)).1
          have hbl := HBL.out b (List.mem_of_getElem? hbi)
          have HPP : Hid ((fitD D b && ccB v (B.drop (k + 1)) (addD D b)) = false → PoI v B (k + 1) n D l) := fun h => HP.out.pass (by omega) (by rw [hgd]; exact h)
          have HPT : Hid ((fitD D b && ccB v (B.drop (k + 1)) (addD D b)) = true → PoI v B (k + 1) (n + b.length) (addD D b) (l ++ [k])) := fun h => by
            have := HP.out.take HBls.out (by omega) (by rw [hgd]; exact h)
            rwa [hgd] at this
          by_cases hb0 : b = []
          · have hbl0 : b.length = 0 := by rw [hb0]; rfl
            have HP2 : Hid (PoI v B (k + 1) n D l) := HPP.out (by rw [hb0]; rfl)
            rw [hbl0] at hr
            clear hb0 hbl0 HP hrow hbi hgd hbl HRW HPP HPT
            go_wp2
            go_roundw
            case rel => exact ⟨k + 1, n, D, l, by go_num, rfl, by omega, hn, by omega, hnil, hown, hB, HP2⟩
            case measure => simp [intOf]; omega
          · have hbp : 0 < b.length := List.length_pos_iff.2 hb0
            have hcan := HP.out.can (by rw [hgd]; exact hb0)
            rw [hgd] at hcan
            have HCK : Hid (∀ (x : Value) (W : World), Below w0.heap.size w0 W → Sl W x ((l ++ [k]).map Int.ofNat) → Calls Tryd.prog 37 #[.agg #[.int .i64 (v : Int), .slice (some ⟨bb, off, none⟩) bn cap], .int .i64 ((k : Int) + 1), x] W fun e w' => e = .returned (.bool (fitD D b && ccB v (B.drop (k + 1)) (addD D b))) ∧ Below W.heap.size W w') := fun x W hW hx => by
              have := CC.out k (l ++ [k]) x W hW hx (fun i hi => by
                rcases List.mem_append.1 hi with h | h
                · have := HP.out.lt i h; omega
                · simp at h; omega) (by rw [List.length_append]; simp; omega) hkb
              rwa [hcan] at this
            have HLE : Hid ((fitD D b && ccB v (B.drop (k + 1)) (addD D b)) = true → n + b.length ≤ v) := fun h => (HPT.out h).le
            obtain ⟨q, Hq⟩ : ∃ q, Hid ((fitD D b && ccB v (B.drop (k + 1)) (addD D b)) = q) := ⟨_, rfl⟩
            rw [Hq.out] at HCK HPP HPT HLE
            obtain ⟨D2, HD2⟩ : ∃ D2, Hid (addD D b = D2) := ⟨_, rfl⟩
            rw [HD2.out] at HPT
            have hbe : ((b.length : Int) == 0) = false := beq_eq_false_iff_ne.2 (by omega)
            have HSL : Hid (Sl wr _ (l.map Int.ofNat)) := Sl.owned (by rw [List.length_map]; exact hown)
            have HOW : Hid (wr.ownsRow w0.heap.size 3 1 _ l.length ((l.map Int.ofNat).map (Value.int .i64))) := hown
            generalize hbn2 : b.length = bl at *
            clear HP hrow hbi hgd hcan hb0 Hq HD2
            cases q with
            | true =>
              have HP2 : Hid (PoI v B (k + 1) (n + bl) D2 (l ++ [k])) := HPT.out (by first | rfl | trivial)
              have hle : n + bl ≤ v := HLE.out (by first | rfl | trivial)
              clear HPT HPP HLE
              by_cases hl0 : l = []
              · subst hl0
                have eov := hnil rfl
                subst eov
                clear HSL hown
                go_wp2_with (first
                  | (go_at_call 37; refine (HCK.out _ _ hB3 HSX.out).mono ?_; rintro e w8 ⟨rfl, hb8⟩; have hB8 := Below.next hB3 hb8; have HO8 := HOX.out _ hb8; have HL8 := HOL.out _ hb8; have hr8 := HRW.out _ hB8; obtain ⟨s0, s1⟩ := HC.out _ hB8; clear HOX HOL HSX)
                  | (at_builtin; refine wpList_append_own _ rfl _ _ 33 rfl wr.heap.size 3 i3 (.int .i64 0) 1 8 und22 hi3 hz0 hz1 hz2 rfl (by decide) _ _ _ rfl ((own_emptyP wr wr.heap.size (Nat.le_refl _)).alloc _) ⟨wr.heap.size + 1, 0, none⟩ 1 1 [.int .i64 (k : Int)] rfl rfl (fun j u hj => by match j, hj with | 0, hj => simp at hj; subst hj; simp [Addr.add]) (fun u hu => by simp at hu; subst hu; rfl) (by unfold maxLen; omega) (by omega) (by simp; omega) ?_; intro v2 w3 hown2 hgrow2 _; have hbN : Below wr.heap.size wr w3 := (((Below.refl _ wr).alloc (Nat.le_refl _) _).alloc (by simp) _).grown hgrow2 (by simp; omega) (fun j hj => ((own_emptyP wr wr.heap.size (Nat.le_refl _)).lt j hj).1); have hownN : w3.ownsRow wr.heap.size 3 1 v2 ([] ++ [k]).length ((([] ++ [k]).map Int.ofNat).map (Value.int .i64)) := (by simpa using hown2); have hB3 := Below.next hB hbN; obtain ⟨z0, z1⟩ := HC.out _ hB3; have HSX : Hid (Sl w3 v2 (([] ++ [k]).map Int.ofNat)) := Sl.owned (by rw [List.length_map]; exact hownN); have HOX : Hid (∀ W', Below w3.heap.size w3 W' → W'.ownsRow w0.heap.size 3 1 v2 ([] ++ [k]).length ((([] ++ [k]).map Int.ofNat).map (Value.int .i64))) := fun W' hW => own_low (own_keep hownN fun b _ hb => hW.block b hb) hbz; have HOL : Hid (∀ W', Below w3.heap.size w3 W' → W'.ownsRow w0.heap.size 3 1 (.slice none 0 0) 0 ((([] : List Nat).map Int.ofNat).map (Value.int .i64))) := fun W' hW => (by have h := own_keep HOW.out fun b _ hb => (Below.next hbN hW).block b hb; exact h); clear hownN hown2 hgrow2)
                  | go_in)
                go_roundw
                case rel => exact ⟨k + 1, n + bl, D2, [] ++ [k], by go_num, by go_num, by omega, hle, by simp, fun h => by simp at h, HO8, hB8, HP2⟩
                case measure => simp [intOf]; omega
              · have hlp : 0 < l.length := List.length_pos_iff.2 hl0
                obtain ⟨lb, lo, lc, eov, hlc⟩ : ∃ lb lo lc, u4 = .slice (some ⟨lb, lo, none⟩) l.length lc ∧ Hid (∀ x, x < l.length → wr.cell? ⟨lb, lo + x, none⟩ = some (.int .i64 ((l.getD x 0 : Nat) : Int))) := by
                  obtain ⟨a', cap', e', h'⟩ := HSL.out
                  rw [List.length_map] at e' h'
                  obtain ⟨lb, lo, e1, -⟩ := h' 0 hlp
                  subst e1
                  refine ⟨lb, lo, cap', e', fun x hx => ?_⟩
                  obtain ⟨lb', lo', e2, h2⟩ := h' x hx
                  simp only [Option.some.injEq, Addr.mk.injEq] at e2
                  obtain ⟨rfl, rfl, -⟩ := e2
                  rw [h2]
                  simp [List.getD_eq_getElem?_getD, List.getElem?_eq_getElem hx]
                have HL0 : Hid (l ≠ []) := hl0
                have hll200 : l.length ≤ 200 := by omega
                subst eov
                obtain ⟨m, Hm⟩ : ∃ m, Hid (l.length = m) := ⟨_, rfl⟩
                rw [Hm.out] at hlc hll hll200 hlp ⊢
                clear HSL hown hnil hl0
                have HK0 : Hid (((l.map Int.ofNat).map (Value.int .i64)).length = m * 1) := by show _ = _; simp [Hm.out]
                have HK1 : Hid (∀ j u, ((l.map Int.ofNat).map (Value.int .i64))[j]? = some u → (wr.alloc (.cells #[] 3)).cell? ((⟨lb, lo, none⟩ : Addr).add j) = some u) := fun j u hj => by
                  have hjm : j < m := by
                    have := (List.getElem?_eq_some_iff.1 hj).1
                    simpa [Hm.out] using this
                  have e1 : ((l.map Int.ofNat).map (Value.int .i64))[j]? = some (.int .i64 ((l.getD j 0 : Nat) : Int)) := by
                    have : j < l.length := by rw [Hm.out]; exact hjm
                    simp [List.getD_eq_getElem?_getD, List.getElem?_eq_getElem this]
                  rw [e1] at hj
                  cases hj
                  rw [show ((⟨lb, lo, none⟩ : Addr).add j) = ⟨lb, lo + j, none⟩ by simp [Addr.add]]
                  exact ((balloc wr _).cell (World.block_lt_of_cell? _ _ (hlc.out j hjm))).trans (hlc.out j hjm)
                have HK2 : Hid (∀ u ∈ (l.map Int.ofNat).map (Value.int .i64), u.oneCell' = true) := fun u hu => by
                  obtain ⟨z, _, rfl⟩ := List.mem_map.1 hu
                  rfl
                go_wp2_with (first
                  | (go_at_call 37; refine (HCK.out _ _ hB3 HSX.out).mono ?_; rintro e w8 ⟨rfl, hb8⟩; have hB8 := Below.next hB3 hb8; have HO8 := HOX.out _ hb8; have HL8 := HOL.out _ hb8; have hr8 := HRW.out _ hB8; obtain ⟨s0, s1⟩ := HC.out _ hB8; clear HOX HOL HSX)
                  | (at_builtin; refine wpList_append_own _ rfl _ _ 33 rfl wr.heap.size 3 i3 (.int .i64 0) 1 8 und22 hi3 hz0 hz1 hz2 rfl (by decide) _ _ _ rfl (hown1'.alloc _) ⟨w2.heap.size, 0, none⟩ 1 1 [.int .i64 (k : Int)] rfl rfl (fun j u hj => by match j, hj with | 0, hj => simp at hj; subst hj; simp [Addr.add]) (fun u hu => by simp at hu; subst hu; rfl) (by unfold maxLen; omega) (by omega) (by simp; omega) ?_; intro v2 w3 hown2 hgrow2 _; have hbN : Below wr.heap.size wr w3 := (hb2.alloc hs2 _).grown hgrow2 (by simp; omega) (fun j hj => (hown1'.lt j hj).1); have hownN : w3.ownsRow wr.heap.size 3 1 v2 (l ++ [k]).length (((l ++ [k]).map Int.ofNat).map (Value.int .i64)) := (by simpa [Hm.out] using hown2); have hB3 := Below.next hB hbN; obtain ⟨z0, z1⟩ := HC.out _ hB3; have HSX : Hid (Sl w3 v2 ((l ++ [k]).map Int.ofNat)) := Sl.owned (by rw [List.length_map]; exact hownN); have HOX : Hid (∀ W', Below w3.heap.size w3 W' → W'.ownsRow w0.heap.size 3 1 v2 (l ++ [k]).length (((l ++ [k]).map Int.ofNat).map (Value.int .i64))) := fun W' hW => own_low (own_keep hownN fun b _ hb => hW.block b hb) hbz; have HOL : Hid (∀ W', Below w3.heap.size w3 W' → W'.ownsRow w0.heap.size 3 1 (.slice (some ⟨lb, lo, none⟩) m lc) m ((l.map Int.ofNat).map (Value.int .i64))) := fun W' hW => (by have h := own_keep HOW.out fun b _ hb => (Below.next hbN hW).block b hb; rw [Hm.out] at h; exact h); clear hownN hown2 hgrow2 hown1')
                  | (at_builtin; refine wpList_append_own _ rfl _ _ 33 rfl wr.heap.size 3 i3 (.int .i64 0) 1 8 und22 hi3 hz0 hz1 hz2 rfl (by decide) _ _ _ rfl (own_emptyP wr wr.heap.size (Nat.le_refl _)) ⟨lb, lo, none⟩ m lc ((l.map Int.ofNat).map (Value.int .i64)) rfl HK0.out HK1.out HK2.out (by unfold maxLen; omega) (by omega) (by simp) ?_; intro v1 w2 hown1 hgrow1 _; have hb2 : Below wr.heap.size wr w2 := ((Below.refl _ wr).alloc (Nat.le_refl _) _).grown hgrow1 (by simp) (fun j hj => ((own_emptyP wr wr.heap.size (Nat.le_refl _)).lt j hj).1); have hs2 := hb2.size; have hown1' : w2.ownsRow wr.heap.size 3 1 v1 m ((l.map Int.ofNat).map (Value.int .i64)) := (by simpa using hown1); clear hown1 hgrow1)
                  | go_in)
                go_roundw
                case rel => exact ⟨k + 1, n + bl, D2, l ++ [k], by go_num, by go_num, by omega, hle, by rw [List.length_append, Hm.out]; simp; omega, fun h => by simp at h, HO8, hB8, HP2⟩
                case measure => simp [intOf]; omega
            | false =>
              have HP2 : Hid (PoI v B (k + 1) n D l) := HPP.out (by first | rfl | trivial)
              clear HPT HPP HLE
              by_cases hl0 : l = []
              · subst hl0
                have eov := hnil rfl
                subst eov
                clear HSL hown
                go_wp2_with (first
                  | (go_at_call 37; refine (HCK.out _ _ hB3 HSX.out).mono ?_; rintro e w8 ⟨rfl, hb8⟩; have hB8 := Below.next hB3 hb8; have HO8 := HOX.out _ hb8; have HL8 := HOL.out _ hb8; have hr8 := HRW.out _ hB8; obtain ⟨s0, s1⟩ := HC.out _ hB8; clear HOX HOL HSX)
                  | (at_builtin; refine wpList_append_own _ rfl _ _ 33 rfl wr.heap.size 3 i3 (.int .i64 0) 1 8 und22 hi3 hz0 hz1 hz2 rfl (by decide) _ _ _ rfl ((own_emptyP wr wr.heap.size (Nat.le_refl _)).alloc _) ⟨wr.heap.size + 1, 0, none⟩ 1 1 [.int .i64 (k : Int)] rfl rfl (fun j u hj => by match j, hj with | 0, hj => simp at hj; subst hj; simp [Addr.add]) (fun u hu => by simp at hu; subst hu; rfl) (by unfold maxLen; omega) (by omega) (by simp; omega) ?_; intro v2 w3 hown2 hgrow2 _; have hbN : Below wr.heap.size wr w3 := (((Below.refl _ wr).alloc (Nat.le_refl _) _).alloc (by simp) _).grown hgrow2 (by simp; omega) (fun j hj => ((own_emptyP wr wr.heap.size (Nat.le_refl _)).lt j hj).1); have hownN : w3.ownsRow wr.heap.size 3 1 v2 ([] ++ [k]).length ((([] ++ [k]).map Int.ofNat).map (Value.int .i64)) := (by simpa using hown2); have hB3 := Below.next hB hbN; obtain ⟨z0, z1⟩ := HC.out _ hB3; have HSX : Hid (Sl w3 v2 (([] ++ [k]).map Int.ofNat)) := Sl.owned (by rw [List.length_map]; exact hownN); have HOX : Hid (∀ W', Below w3.heap.size w3 W' → W'.ownsRow w0.heap.size 3 1 v2 ([] ++ [k]).length ((([] ++ [k]).map Int.ofNat).map (Value.int .i64))) := fun W' hW => own_low (own_keep hownN fun b _ hb => hW.block b hb) hbz; have HOL : Hid (∀ W', Below w3.heap.size w3 W' → W'.ownsRow w0.heap.size 3 1 (.slice none 0 0) 0 ((([] : List Nat).map Int.ofNat).map (Value.int .i64))) := fun W' hW => (by have h := own_keep HOW.out fun b _ hb => (Below.next hbN hW).block b hb; exact h); clear hownN hown2 hgrow2)
                  | go_in)
                go_roundw
                case rel => exact ⟨k + 1, n, D, [], by go_num, rfl, by omega, hn, by simp, fun _ => rfl, HL8, hB8, HP2⟩
                case measure => simp [intOf]; omega
              · have hlp : 0 < l.length := List.length_pos_iff.2 hl0
                obtain ⟨lb, lo, lc, eov, hlc⟩ : ∃ lb lo lc, u4 = .slice (some ⟨lb, lo, none⟩) l.length lc ∧ Hid (∀ x, x < l.length → wr.cell? ⟨lb, lo + x, none⟩ = some (.int .i64 ((l.getD x 0 : Nat) : Int))) := by
                  obtain ⟨a', cap', e', h'⟩ := HSL.out
                  rw [List.length_map] at e' h'
                  obtain ⟨lb, lo, e1, -⟩ := h' 0 hlp
                  subst e1
                  refine ⟨lb, lo, cap', e', fun x hx => ?_⟩
                  obtain ⟨lb', lo', e2, h2⟩ := h' x hx
                  simp only [Option.some.injEq, Addr.mk.injEq] at e2
                  obtain ⟨rfl, rfl, -⟩ := e2
                  rw [h2]
                  simp [List.getD_eq_getElem?_getD, List.getElem?_eq_getElem hx]
                have HL0 : Hid (l ≠ []) := hl0
                have hll200 : l.length ≤ 200 := by omega
                subst eov
                obtain ⟨m, Hm⟩ : ∃ m, Hid (l.length = m) := ⟨_, rfl⟩
                rw [Hm.out] at hlc hll hll200 hlp ⊢
                clear HSL hown hnil hl0
                have HK0 : Hid (((l.map Int.ofNat).map (Value.int .i64)).length = m * 1) := by show _ = _; simp [Hm.out]
                have HK1 : Hid (∀ j u, ((l.map Int.ofNat).map (Value.int .i64))[j]? = some u → (wr.alloc (.cells #[] 3)).cell? ((⟨lb, lo, none⟩ : Addr).add j) = some u) := fun j u hj => by
                  have hjm : j < m := by
                    have := (List.getElem?_eq_some_iff.1 hj).1
                    simpa [Hm.out] using this
                  have e1 : ((l.map Int.ofNat).map (Value.int .i64))[j]? = some (.int .i64 ((l.getD j 0 : Nat) : Int)) := by
                    have : j < l.length := by rw [Hm.out]; exact hjm
                    simp [List.getD_eq_getElem?_getD, List.getElem?_eq_getElem this]
                  rw [e1] at hj
                  cases hj
                  rw [show ((⟨lb, lo, none⟩ : Addr).add j) = ⟨lb, lo + j, none⟩ by simp [Addr.add]]
                  exact ((balloc wr _).cell (World.block_lt_of_cell? _ _ (hlc.out j hjm))).trans (hlc.out j hjm)
                have HK2 : Hid (∀ u ∈ (l.map Int.ofNat).map (Value.int .i64), u.oneCell' = true) := fun u hu => by
                  obtain ⟨z, _, rfl⟩ := List.mem_map.1 hu
                  rfl
                go_wp2_with (first
                  | (go_at_call 37; refine (HCK.out _ _ hB3 HSX.out).mono ?_; rintro e w8 ⟨rfl, hb8⟩; have hB8 := Below.next hB3 hb8; have HO8 := HOX.out _ hb8; have HL8 := HOL.out _ hb8; have hr8 := HRW.out _ hB8; obtain ⟨s0, s1⟩ := HC.out _ hB8; clear HOX HOL HSX)
                  | (at_builtin; refine wpList_append_own _ rfl _ _ 33 rfl wr.heap.size 3 i3 (.int .i64 0) 1 8 und22 hi3 hz0 hz1 hz2 rfl (by decide) _ _ _ rfl (hown1'.alloc _) ⟨w2.heap.size, 0, none⟩ 1 1 [.int .i64 (k : Int)] rfl rfl (fun j u hj => by match j, hj with | 0, hj => simp at hj; subst hj; simp [Addr.add]) (fun u hu => by simp at hu; subst hu; rfl) (by unfold maxLen; omega) (by omega) (by simp; omega) ?_; intro v2 w3 hown2 hgrow2 _; have hbN : Below wr.heap.size wr w3 := (hb2.alloc hs2 _).grown hgrow2 (by simp; omega) (fun j hj => (hown1'.lt j hj).1); have hownN : w3.ownsRow wr.heap.size 3 1 v2 (l ++ [k]).length (((l ++ [k]).map Int.ofNat).map (Value.int .i64)) := (by simpa [Hm.out] using hown2); have hB3 := Below.next hB hbN; obtain ⟨z0, z1⟩ := HC.out _ hB3; have HSX : Hid (Sl w3 v2 ((l ++ [k]).map Int.ofNat)) := Sl.owned (by rw [List.length_map]; exact hownN); have HOX : Hid (∀ W', Below w3.heap.size w3 W' → W'.ownsRow w0.heap.size 3 1 v2 (l ++ [k]).length (((l ++ [k]).map Int.ofNat).map (Value.int .i64))) := fun W' hW => own_low (own_keep hownN fun b _ hb => hW.block b hb) hbz; have HOL : Hid (∀ W', Below w3.heap.size w3 W' → W'.ownsRow w0.heap.size 3 1 (.slice (some ⟨lb, lo, none⟩) m lc) m ((l.map Int.ofNat).map (Value.int .i64))) := fun W' hW => (by have h := own_keep HOW.out fun b _ hb => (Below.next hbN hW).block b hb; rw [Hm.out] at h; exact h); clear hownN hown2 hgrow2 hown1')
                  | (at_builtin; refine wpList_append_own _ rfl _ _ 33 rfl wr.heap.size 3 i3 (.int .i64 0) 1 8 und22 hi3 hz0 hz1 hz2 rfl (by decide) _ _ _ rfl (own_emptyP wr wr.heap.size (Nat.le_refl _)) ⟨lb, lo, none⟩ m lc ((l.map Int.ofNat).map (Value.int .i64)) rfl HK0.out HK1.out HK2.out (by unfold maxLen; omega) (by omega) (by simp) ?_; intro v1 w2 hown1 hgrow1 _; have hb2 : Below wr.heap.size wr w2 := ((Below.refl _ wr).alloc (Nat.le_refl _) _).grown hgrow1 (by simp) (fun j hj => ((own_emptyP wr wr.heap.size (Nat.le_refl _)).lt j hj).1); have hs2 := hb2.size; have hown1' : w2.ownsRow wr.heap.size 3 1 v1 m ((l.map Int.ofNat).map (Value.int .i64)) := (by simpa using hown1); clear hown1 hgrow1)
                  | go_in)
                go_roundw
                case rel => exact ⟨k + 1, n, D, l, by go_num, rfl, by omega, hn, by rw [Hm.out]; omega, fun h => (HL0.out h).elim, by rw [Hm.out]; exact HL8, hB8, HP2⟩
                case measure => simp [intOf]; omega
        · have hdn : decide ((n : Int) < (v : Int)) = false := by simp; omega
          have hdn2 : decide (n < v) = false := decide_eq_false hnv
          obtain rfl : n = v := by omega
          have hFs := HEF.out _ _ _ HP.out
          obtain ⟨ra, rc, er⟩ := own_form hown
          subst er
          have HSL := Sl.owned (l := l.map Int.ofNat) (by rw [List.length_map]; exact hown)
          clear HP
          go_wp2
          exact bodyPost_ret (v := .tuple #[.slice ra l.length rc, .int .i64 0]) (by simp [results, Tryd.results21, go_sem]) rfl ⟨.inr ⟨l, _, hFs, rfl, HSL⟩, Below.next HB0.out hB⟩
      · have hd : decide ((k : Int) < (bn : Int)) = false := by simp; omega
        obtain rfl : k = bn := by omega
        have hFs := HEA.out _ _ _ HP.out (by first | rfl | trivial)
        obtain ⟨ra, rc, er⟩ := own_form hown
        subst er
        have HSL := Sl.owned (l := l.map Int.ofNat) (by rw [List.length_map]; exact hown)
        clear HP
        go_wp2
        exact bodyPost_ret (v := .tuple #[.slice ra l.length rc, .int .i64 0]) (by simp [results, Tryd.results21, go_sem]) rfl ⟨.inr ⟨l, _, hFs, rfl, HSL⟩, Below.next HB0.out hB⟩

end Go.Proofs.YtnnopfdckillpaaDoor
