/- The walk of the document's CanCut. -/
import Derived.Test.YtnnopfdckillpaaDoorDCu
import Derived.Test.YtnnopfdckillpaaDoorDMe
namespace Go.Proofs.YtnnopfdckillpaaDoor
open Go.RowKit

/-- What is marked behind some blocks, if they are apart. -/
def goD : List (List Nat) → (Nat → Bool) → Option (Nat → Bool)
  | [], D => some D
  | b :: bs, D => if (b.all fun x => !D x) = true then goD bs (addD D b) else none
theorem goD_append : ∀ (a c : List (List Nat)) (D : Nat → Bool), goD (a ++ c) D = (goD a D).bind (goD c)
  | [], c, D => rfl
  | b :: a, c, D => by
    rw [List.cons_append]
    unfold goD
    split
    · exact goD_append a c _
    · rfl
def canB (v : Nat) (B : List (List Nat)) (k : Nat) (l : List Nat) : Bool := match goD (l.map fun i => B.getD i []) (fun _ => false) with
  | none => false
  | some D => ccB v (B.drop k) D
theorem canB_some {v k : Nat} {B : List (List Nat)} {l : List Nat} {D : Nat → Bool} (h : goD (l.map fun i => B.getD i []) (fun _ => false) = some D) : canB v B k l = ccB v (B.drop k) D := by
  unfold canB; rw [h]
theorem goD_step {B : List (List Nat)} {l : List Nat} {i x : Nat} {D : Nat → Bool} (h : goD ((l.take i).map fun i => B.getD i []) (fun _ => false) = some D) (hx : l[i]? = some x) (ha : ∀ y ∈ B.getD x [], D y = false) : goD ((l.take (i + 1)).map fun i => B.getD i []) (fun _ => false) = some (addD D (B.getD x [])) := by
  rw [List.take_add_one, hx, List.map_append, goD_append, h]
  show goD [B.getD x []] D = _
  unfold goD
  rw [if_pos (List.all_eq_true.2 fun y hy => by rw [ha y hy]; rfl)]
  rfl
theorem goD_bad {B : List (List Nat)} {l : List Nat} {i x y : Nat} {D : Nat → Bool} (h : goD ((l.take i).map fun i => B.getD i []) (fun _ => false) = some D) (hx : l[i]? = some x) (hy : y ∈ B.getD x []) (hD : D y = true) : goD (l.map fun i => B.getD i []) (fun _ => false) = none := by
  obtain ⟨hi, e⟩ := List.getElem?_eq_some_iff.1 hx
  have hl : l = l.take i ++ x :: l.drop (i + 1) := by
    rw [← e, ← List.drop_eq_getElem_cons hi, List.take_append_drop]
  rw [hl, List.map_append, goD_append, h]
  show goD (B.getD x [] :: _) D = none
  unfold goD
  rw [if_neg]
  intro k
  have := List.all_eq_true.1 k y hy
  rw [hD] at this; cases this
theorem mk1_at {D : Nat → Bool} {b : List Nat} {j y : Nat} (hn : b.Nodup) (h : b[j]? = some y) : mk1 D b j y = D y := by
  unfold mk1
  have : (b.take j).contains y = false := by
    cases e : (b.take j).contains y with
    | false => rfl
    | true =>
      rw [List.contains_iff_mem] at e
      obtain ⟨i, hi, e⟩ := List.mem_iff_getElem.1 e
      rw [List.length_take] at hi
      rw [List.getElem_take] at e
      obtain ⟨hj, e2⟩ := List.getElem?_eq_some_iff.1 h
      exact (List.pairwise_iff_getElem.1 hn i j (by omega) hj (by omega) (e.trans e2.symm)).elim
  rw [this, Bool.or_false]
theorem cut22 (a : Option Addr) (n cap k : Nat) (hk : k ≤ n) (_hn : n ≤ 200) : ∃ a' n' c', (a' = if cap = k then a else a.map (·.add k)) ∧ n' = n - k ∧ ∀ W, (Instr.sliceAt 22 (.slice a n cap) (some (.int .i64 (k : Int))) none none).run Tryd.prog W = .ok (.slice a' n' c') W := by
  refine ⟨_, n - k, cap - k, rfl, rfl, fun W => ?_⟩
  have h1 : (k : Int) ≤ (n : Int) := by omega
  go_simp
set_option maxRecDepth 100000 in
set_option maxHeartbeats 16000000 in
theorem CanCut_any (v k : Nat) (B : List (List Nat)) (l : List Nat) (u x : Value) (w : World) (G : GoodD v B) (hu : Rw w u (toZ B)) (hx : Sl w x (l.map Int.ofNat)) (hl : ∀ i ∈ l, i < B.length) (hll : l.length ≤ 200) (hk : k ≤ B.length) (hcap : ∀ a n c, u = .slice a n c → n ≤ c) :
    Calls Tryd.prog 37 #[.agg #[.int .i64 (v : Int), u], .int .i64 (k : Int), x] w fun e w' => e = .returned (.bool (canB v B k l)) ∧ Below w.heap.size w w' := by
  obtain ⟨a, cap, rfl, hD⟩ := drow_of hu
  have hcp := hcap _ _ _ rfl
  obtain ⟨a', n', c', ha', hn', hcut⟩ := cut22 a B.length cap k hk G.few
  have hn2 : n' ≤ 200 := by have := G.few; omega
  have hmk2 : ∀ w : World, (Instr.makeSlice 56 (.int .i64 (n' : Int)) (.int .i64 (n' : Int))).run Tryd.prog w = .ok (.slice (some ⟨w.heap.size, 0, none⟩) n' n') (w.alloc (.cells (madeCells #[.bool false] n') 4)) := fun w => run_makeB n' (by omega) w
  have h200 := G.few
  have hv40 := G.le
  have HD : Hid (DRow w a B) := hD
  have HG : Hid (GoodD v B) := G
  have HBL : Hid (∀ b ∈ B, b.length ≤ v) := fun b hb => (G.bls b hb).le
  have HND : Hid (∀ b ∈ B, b.Nodup ∧ ∀ y ∈ b, y < v) := fun b hb => ⟨(G.bls b hb).nd, (G.bls b hb).lt⟩
  have HAT : Hid (∀ i, i < B.length → ∃ b, B[i]? = some b) := fun i hi => ⟨_, List.getElem?_eq_getElem hi⟩
  have HLT : Hid (∀ (m y : Nat), l[m]? = some y → y < B.length) := fun m y h => hl y (List.mem_of_getElem? h)
  have HGL : Hid (∀ (m : Nat), m < l.length → ∃ y, l[m]? = some y) := fun m hm => ⟨_, List.getElem?_eq_getElem hm⟩
  have HTA : Hid (l.take l.length = l) := List.take_length
  have HXC : Hid (∃ xa xc, x = .slice xa l.length xc ∧ ∀ (m y : Nat), l[m]? = some y → ∃ eb eo, xa = some ⟨eb, eo, none⟩ ∧ ∀ W, Below w.heap.size w W → W.cell? ⟨eb, eo + m, none⟩ = some (.int .i64 (y : Int))) := by
    obtain ⟨xa, xc, e, h⟩ := hx
    rw [List.length_map] at e h
    refine ⟨xa, xc, e, fun m y hm => ?_⟩
    have hml : m < l.length := (List.getElem?_eq_some_iff.1 hm).1
    obtain ⟨eb, eo, e2, e3⟩ := h m hml
    rw [ofNat_at l hml, show l.getD m 0 = y by rw [List.getD_eq_getElem?_getD, hm]; rfl] at e3
    exact ⟨eb, eo, e2, fun W b => (b.cell (World.block_lt_of_cell? _ _ e3)).trans e3⟩
  obtain ⟨xa, xc, rfl, hXC⟩ := HXC.out
  replace HXC : Hid (∀ (m y : Nat), l[m]? = some y → ∃ eb eo, xa = some ⟨eb, eo, none⟩ ∧ ∀ W, Below w.heap.size w W → W.cell? ⟨eb, eo + m, none⟩ = some (.int .i64 (y : Int))) := hXC
  have HCS : Hid (∀ D, goD (l.map fun i => B.getD i []) (fun _ => false) = some D → canB v B k l = ccB v (B.drop k) D) := fun D h => canB_some h
  have HCN : Hid (goD (l.map fun i => B.getD i []) (fun _ => false) = none → canB v B k l = false) := fun h => by unfold canB; rw [h]
  obtain ⟨z, Hz⟩ : ∃ z, Hid (canB v B k l = z) := ⟨_, rfl⟩
  rw [Hz.out] at HCS HCN ⊢
  have HC : Hid (∀ W, Below (w.alloc (.cells #[.int .i64 (v : Int), .slice a B.length cap] 24)).heap.size (w.alloc (.cells #[.int .i64 (v : Int), .slice a B.length cap] 24)) W → W.cell? ⟨w.heap.size, 0, none⟩ = some (.int .i64 (v : Int)) ∧ W.cell? ⟨w.heap.size, 1, none⟩ = some (.slice a B.length cap)) := des_box v (.slice a B.length cap) w
  obtain ⟨w0, Hw0⟩ : ∃ w0, Hid (w0 = w.alloc (.cells #[.int .i64 (v : Int), .slice a B.length cap] 24)) := ⟨_, rfl⟩
  rw [← Hw0.out] at HC
  have HB0 : Hid (Below w.heap.size w w0) := by rw [Hw0.out]; exact balloc _ _
  have HCU : Hid (∀ (g2 : Nat) (D : Nat → Bool), w0.heap.size ≤ g2 → w0.heap.size ≠ g2 → CutP v n' w0.heap.size g2 w0.heap.size v n' c' a' (B.drop k) w0 D) := fun g2 D h1 h2 => cut_any v n' w0.heap.size g2 w0.heap.size v n' c' a' (B.drop k) w0 hv40 hn2 (by rw [List.length_drop, hn']) (fun b hb => G.rs b (List.mem_of_mem_drop hb)) (Nat.le_refl _) h1 h2 (fun i b hb => by
    rw [List.getElem?_drop] at hb
    obtain ⟨bb, off, ua, uc, e, h⟩ := HD.out (k + i) b hb
    have hlt := (List.getElem?_eq_some_iff.1 hb).1
    refine ⟨bb, off + k, ua, uc, ?_, fun W bW => ?_⟩
    · rw [ha', if_neg (by omega), e]; simp [Addr.add]
    · have := h W (Below.next HB0.out bW)
      rw [Nat.add_assoc]; exact this) _ D (Nat.le_refl _)
  obtain ⟨x0, x1⟩ := HC.out _ (Below.refl _ _)
  rw [Hw0.out] at x0 x1
  have hmk : ∀ w : World, (Instr.makeSlice 56 (.int .i64 (v : Int)) (.int .i64 (v : Int))).run Tryd.prog w = .ok (.slice (some ⟨w.heap.size, 0, none⟩) v v) (w.alloc (.cells (madeCells #[.bool false] v) 4)) := fun w => run_makeB v (by omega) w
  have hbo0 := bo_new w0 v
  have hb0 := balloc w0 (.cells (madeCells #[.bool false] v) 4)
  obtain ⟨g, Hg⟩ : ∃ g, Hid (w0.heap.size = g) := ⟨_, rfl⟩
  rw [Hg.out] at hbo0
  have hg0 : w0.heap.size = g := Hg.out
  have HCU' := HCU.out
  rw [hg0] at HCU'
  replace HCU : Hid (∀ (g2 : Nat) (D : Nat → Bool), g ≤ g2 → g ≠ g2 → CutP v n' g g2 g v n' c' a' (B.drop k) w0 D) := HCU'
  clear HCU' hg0
  have hgw : (w.alloc (.cells #[.int .i64 (v : Int), .slice a B.length cap] 24)).heap.size = g := by rw [← Hw0.out]; exact Hg.out
  generalize hBn : B.length = n at *
  generalize hln : l.length = ln at *
  clear hD hu G hx hl hXC hcap ha' hn'
  go_enter Tryd.func37, Tryd.ntmps37
  go_wp2
  rw [← Hw0.out]
  go_loopw [8] (fun iv wr => ∃ (i : Nat) (D : Nat → Bool), iv = .int .i64 (i : Int) ∧ i ≤ ln ∧ Hid (goD ((l.take i).map fun i => B.getD i []) (fun _ => false) = some D) ∧ Bo wr g v D ∧ Below w0.heap.size w0 wr) (fun iv _ => (ln - intOf iv).toNat)
  case atStart => exact ⟨0, _, rfl, by omega, (rfl : goD ((l.take 0).map fun i => B.getD i []) (fun _ => false) = some _), hbo0, hb0⟩
  case round =>
    clear x0 x1 hbo0 hb0 hmk
    obtain ⟨i, D, rfl, hi, HGO, hbo, hB⟩ := hrel
    obtain ⟨x0, x1⟩ := HC.out _ hB
    by_cases hlt : i < ln
    · have hdi : decide ((i : Int) < (ln : Int)) = true := by simp; omega
      have hii : (i : Int) < (ln : Int) := by omega
      obtain ⟨p, hp⟩ := HGL.out i hlt
      have HP : Hid (l[i]? = some p) := hp
      have hpn := HLT.out i p hp
      have hpi : (p : Int) < (n : Int) := by omega
      obtain ⟨eb, eo, rfl, hel⟩ := HXC.out i p hp
      have hpc := hel _ (Below.next HB0.out hB)
      obtain ⟨b, hbp⟩ := HAT.out p hpn
      have HBG : Hid (B.getD p [] = b) := by show _ = _; rw [List.getD_eq_getElem?_getD, hbp]; rfl
      obtain ⟨bb, off, ua, uc, rfl, hrow⟩ := HD.out p b hbp
      have HROW : Hid (∀ W, Below w.heap.size w W → Sl W (.slice ua b.length uc) (b.map Int.ofNat)) := fun W k => (hrow W k).2
      have hr := (hrow _ (Below.next HB0.out hB)).1
      have hbl := HBL.out b (List.mem_of_getElem? hbp)
      have HNB := HND.out b (List.mem_of_getElem? hbp)
      replace HNB : Hid (b.Nodup ∧ ∀ y ∈ b, y < v) := HNB
      have HEL : Hid (∀ (m y : Nat), b[m]? = some y → ∃ eb eo, ua = some ⟨eb, eo, none⟩ ∧ ∀ W, Below w.heap.size w W → W.cell? ⟨eb, eo + m, none⟩ = some (.int .i64 (y : Int))) := fun m y hm => by
        have hml : m < b.length := (List.getElem?_eq_some_iff.1 hm).1
        have f : ∀ W, Below w.heap.size w W → ∃ eb eo, ua = some ⟨eb, eo, none⟩ ∧ W.cell? ⟨eb, eo + m, none⟩ = some (.int .i64 (y : Int)) := fun W k => by
          obtain ⟨a', c', e, h⟩ := HROW.out W k
          simp only [Value.slice.injEq] at e
          obtain ⟨eb, eo, e2, e3⟩ := h m (by rw [List.length_map]; exact hml)
          rw [ofNat_at b hml, show b.getD m 0 = y by rw [List.getD_eq_getElem?_getD, hm]; rfl] at e3
          exact ⟨eb, eo, e.1.trans e2, e3⟩
        obtain ⟨eb, eo, e, _⟩ := f _ (Below.refl _ _)
        refine ⟨eb, eo, e, fun W k => ?_⟩
        obtain ⟨eb', eo', e', h⟩ := f W k
        rw [e] at e'
        simp only [Option.some.injEq, Addr.mk.injEq] at e'
        obtain ⟨rfl, rfl, _⟩ := e'
        exact h
      have HGE : Hid (∀ (m : Nat), m < b.length → ∃ y, b[m]? = some y) := fun m hm => ⟨_, List.getElem?_eq_getElem hm⟩
      have HNX : Hid ((∀ (m y : Nat), m < b.length → b[m]? = some y → D y = false) → goD ((l.take (i + 1)).map fun i => B.getD i []) (fun _ => false) = some (mk1 D b b.length)) := fun h => by
        rw [mk1_all, ← HBG.out]
        refine goD_step HGO.out HP.out fun y hy => ?_
        rw [HBG.out] at hy
        obtain ⟨m, hm, e⟩ := List.mem_iff_getElem.1 hy
        exact h m y hm (by rw [List.getElem?_eq_getElem hm, e])
      have HNO : Hid (∀ (m y : Nat), b[m]? = some y → D y = true → z = false) := fun m y hm hd => HCN.out (goD_bad HGO.out HP.out (by rw [HBG.out]; exact List.mem_of_getElem? hm) hd)
      have hbo' := fun q => hbo.below (bdrewN (Below.refl wr.heap.size wr) q)
      have hB' := fun q => bdrewN hB q
      have HM0 : Hid (mk1 D b 0 = D) := mk1_none D b
      rw [← HM0.out] at hbo'
      generalize hbn : b.length = bn at *
      clear hel hp hbp hrow hbo hB
      go_wp2
      go_quiet (fail)
      go_wp2
      go_loopw [10] (fun jv wr' => ∃ j : Nat, jv = .int .i64 (j : Int) ∧ j ≤ bn ∧ Hid (∀ (m y : Nat), m < j → b[m]? = some y → D y = false) ∧ Bo wr' g v (mk1 D b j) ∧ Below w0.heap.size w0 wr') (fun jv _ => (bn - intOf jv).toNat)
      case atStart => exact ⟨0, rfl, by omega, (show ∀ (m y : Nat), m < 0 → _ from fun m y h => by omega), hbo' _, hB' _⟩
      case round =>
        clear hbo' hB' x0 x1 hr hpc
        obtain ⟨j, rfl, hj, HJ, hbo, hB⟩ := hrel
        by_cases hlj : j < bn
        · have hdj : decide ((j : Int) < (bn : Int)) = true := by simp; omega
          have hji : (j : Int) < (bn : Int) := by omega
          obtain ⟨y, hy⟩ := HGE.out j hlj
          have hyv := HNB.out.2 y (List.mem_of_getElem? hy)
          have hyi : (y : Int) < (v : Int) := by omega
          obtain ⟨fb, fo, rfl, hel⟩ := HEL.out j y hy
          have hey := hel _ (Below.next HB0.out hB)
          have hcy := hbo.cell y hyv
          rw [mk1_at HNB.out.1 hy] at hcy
          have hfz := hbo.frozen y
          have hbn2 := hbo.set y true
          rw [mk1_step hy] at hbn2
          have hBn2 := hB.setCell (p := ⟨g, y, none⟩) (Nat.le_of_eq Hg.out) (.bool true)
          cases hd : D y with
          | true =>
            obtain rfl : z = false := HNO.out j y hy hd
            rw [hd] at hcy
            have hBf := Below.next HB0.out hB
            clear hy hel hd hbn2 hBn2 hbo
            go_wp2
            go_ret
            exact ⟨rfl, hBf⟩
          | false =>
            rw [hd] at hcy
            have HJ2 : Hid (∀ (m y : Nat), m < j + 1 → b[m]? = some y → D y = false) := fun m y' hm h => by
              by_cases e : m = j
              · subst e; rw [hy] at h; cases h; exact hd
              · exact HJ.out m y' (by omega) h
            clear hy hel hd HJ hbo hB
            go_wp2
            go_roundw
            case rel => exact ⟨j + 1, by go_num, by omega, HJ2, hbn2, hBn2⟩
            case measure => simp [intOf]; omega
        · have hdj : decide ((j : Int) < (bn : Int)) = false := by simp; omega
          obtain rfl : j = bn := by omega
          have HGO2 : Hid (goD ((l.take (i + 1)).map fun i => B.getD i []) (fun _ => false) = some (mk1 D b j)) := HNX.out HJ.out
          go_wp2
          go_roundw
          case rel => exact ⟨i + 1, _, by go_num, by omega, HGO2, hbo, hB⟩
          case measure => simp [intOf]; omega
    · have hdi : decide ((i : Int) < (ln : Int)) = false := by simp; omega
      obtain rfl : i = ln := by omega
      have HZ : Hid (z = ccB v (B.drop k) D) := HCS.out D (by rw [← HTA.out]; exact HGO.out)
      clear HGO hlt hi
      have HS : Hid (∀ W', Below wr.heap.size wr W' → (fun w' => w'.cell? ⟨w.heap.size, 0, none⟩ = some (.int .i64 (v : Int)) ∧ w'.cell? ⟨w.heap.size, 1, none⟩ = some (.slice a n cap)) W') := fun W' b => ⟨(b.cell (World.block_lt_of_cell? _ _ x0)).trans x0, (b.cell (World.block_lt_of_cell? _ _ x1)).trans x1⟩
      clear x0 x1
      go_wp2
      refine wp_region_noPanic ?_
      refine wp_region_held_drew (S := fun w' => w'.cell? ⟨w.heap.size, 0, none⟩ = some (.int .i64 (v : Int)) ∧ w'.cell? ⟨w.heap.size, 1, none⟩ = some (.slice a n cap)) (by kernel_rfl) (HS.out _ (Below.refl _ wr).drew) (fun hSx => ?_)
      have d0 : Below wr.heap.size wr wr.drew := (Below.refl _ wr).drew
      refine wpAnyH_take (i := 0) (v := .pointer (some ⟨w.heap.size, 0, none⟩)) rfl (by kernel_rfl) (by kernel_rfl) (by kernel_rfl) (fun _ _ _ h => h) (Or.inl ⟨by rfl, fun w' hSw => by (try dsimp only at hSw); obtain ⟨hs0, hs1⟩ := hSw; go_simp⟩) hSx ?_
      try simp only [Act.put, List.setIfInBounds_toArray]
      refine wpAnyH_take (i := 1) (v := .int .i64 (v : Int)) rfl (by kernel_rfl) (by kernel_rfl) (by kernel_rfl) (fun _ _ _ h => h) (Or.inl ⟨by rfl, fun w' hSw => by (try dsimp only at hSw); obtain ⟨hs0, hs1⟩ := hSw; go_simp⟩) hSx ?_
      try simp only [Act.put]
      refine wpAnyH_take (i := 2) (v := .pointer (some ⟨w.heap.size, 1, none⟩)) rfl (by kernel_rfl) (by kernel_rfl) (by kernel_rfl) (fun _ _ _ h => h) (Or.inl ⟨by rfl, fun w' hSw => by (try dsimp only at hSw); obtain ⟨hs0, hs1⟩ := hSw; go_simp⟩) hSx ?_
      try simp only [Act.put]
      refine wpAnyH_take (i := 3) (v := .slice a n cap) rfl (by kernel_rfl) (by kernel_rfl) (by kernel_rfl) (fun _ _ _ h => h) (Or.inl ⟨by rfl, fun w' hSw => by (try dsimp only at hSw); obtain ⟨hs0, hs1⟩ := hSw; go_simp⟩) hSx ?_
      try simp only [Act.put]
      refine wpAnyH_take (i := 4) (v := .int .i64 (k : Int)) rfl (by kernel_rfl) (by kernel_rfl) (by kernel_rfl) (fun _ _ _ h => h) (Or.inl ⟨by rfl, fun w' hSw => by (try dsimp only at hSw); obtain ⟨hs0, hs1⟩ := hSw; go_simp⟩) hSx ?_
      try simp only [Act.put]
      refine wpAnyH_take (i := 5) (v := .slice a' n' c') rfl (by kernel_rfl) (by kernel_rfl) (by kernel_rfl) (fun _ _ _ h => h) (Or.inl ⟨by rfl, fun w' hSw => by (try dsimp only at hSw); obtain ⟨hs0, hs1⟩ := hSw; go_simp⟩) hSx ?_
      try simp only [Act.put]
      refine wpAnyH_take (i := 6) (v := .agg #[.int .i64 (v : Int), .slice a' n' c']) rfl (by kernel_rfl) (by kernel_rfl) (by kernel_rfl) (fun _ _ _ h => h) (Or.inl ⟨by rfl, fun w' hSw => by (try dsimp only at hSw); obtain ⟨hs0, hs1⟩ := hSw; go_simp⟩) hSx ?_
      try simp only [Act.put]
      refine wpAnyH_ready (rs := [7]) (by kernel_rfl) (by simp) ?_
      refine AllReadyH.cons rfl (fun J hJ => ?_) AllReadyH.nil
      go_simp
      have d1 : Below wr.heap.size wr (wr.alloc (.cells #[.int .i64 0, .slice none 0 0] 24)).drew := ((Below.refl _ wr).alloc (Nat.le_refl _) _).drew
      refine hJ.out _ _ (HS.out _ d1) (fun hSx => ?_)
      clear hJ J
      try simp only [Act.put, List.setIfInBounds_toArray, List.set_cons_zero, List.set_cons_succ]
      refine wpAnyH_ready (rs := [8]) (by kernel_rfl) (by simp) ?_
      refine AllReadyH.cons rfl (fun J hJ => ?_) AllReadyH.nil
      go_simp
      have d2 : Below wr.heap.size wr (wr.alloc (.cells #[.int .i64 (v : Int), .slice a' n' c'] 24)).drew := ((Below.refl _ wr).alloc (Nat.le_refl _) _).drew
      refine hJ.out _ _ (HS.out _ d2) (fun hSx => ?_)
      clear hJ J
      try simp only [Act.put, List.setIfInBounds_toArray, List.set_cons_zero, List.set_cons_succ]
      refine wpAnyH_done (by kernel_rfl) ?_ _
      refine NoPanic.normal ?_
      have y0 : (wr.alloc (.cells #[.int .i64 (v : Int), .slice a' n' c'] 24)).drew.cell? ⟨wr.heap.size, 0, none⟩ = some (.int .i64 (v : Int)) := (des_box v (.slice a' n' c') wr _ (Below.refl _ _)).1
      have y1 : (wr.alloc (.cells #[.int .i64 (v : Int), .slice a' n' c'] 24)).drew.cell? ⟨wr.heap.size, 1, none⟩ = some (.slice a' n' c') := (des_box v (.slice a' n' c') wr _ (Below.refl _ _)).2
      have hbo2 := hbo.below d2
      have hB2 := Below.next hB d2
      clear hSx HS d0 d1 d2 hbo hB
      generalize (wr.alloc (.cells #[.int .i64 (v : Int), .slice a' n' c'] 24)).drew = w2 at *
      have hb3 := balloc w2 (.cells (madeCells #[.bool false] n') 4)
      have z0 := (hb3.cell (World.block_lt_of_cell? _ _ y0)).trans y0
      have z1 := (hb3.cell (World.block_lt_of_cell? _ _ y1)).trans y1
      have hbo3 := hbo2.below hb3
      have hB3 := Below.next hB2 hb3
      have hch := bo_new w2 n'
      have hs2 := hB2.size
      have hg2 : g < w2.heap.size := hbo2.lt
      rw [Hg.out] at hB3
      have CU := HCU.out w2.heap.size D (by omega) (by omega) _ (fun _ => false) hB3 (by rw [← Hg.out] at hB3 ⊢; exact hB3.size) hbo3 hch
      rw [← Hg.out] at hB3
      rw [← HZ.out] at CU
      clear hbo2 hbo3 hch hb3
      go_wp2_with (go_at_call 48; refine CU.mono ?_; rintro e w5 ⟨rfl, _, _, hK5⟩; clear CU)
      go_ret
      exact ⟨rfl, Below.next HB0.out (hB3.trans (by rw [Hg.out]; exact hK5.1))⟩
end Go.Proofs.YtnnopfdckillpaaDoor
