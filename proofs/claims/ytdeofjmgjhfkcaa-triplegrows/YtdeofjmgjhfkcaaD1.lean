/- The walk of the document's MakeOf. -/
import Derived.Test.YtdeofjmgjhfkcaaA8
import Derived.Test.YtdeofjmgjhfkcaaB3
import Derived.Test.YtdeofjmgjhfkcaaTMk
namespace Go.Proofs.Ytdeofjmgjhfkcaa
open Go.RowKit

/-- A new triple behind the others. -/
theorem or_app3 {w w2 : World} {base n : Nat} {v v' : Value} {L : List (List Nat)} {vals : List Value} {x y z : Nat} {a b c : Int} (h1 : w.ownsRow base 45 1 v L.length vals) (h2 : ∀ (i : Nat) (u : Value) (l : List Nat), vals[i]? = some u → L[i]? = some l → ORow w base u l) (hn : L.length = n) (hbs : base ≤ w.heap.size)
    (hown : w2.ownsRow base 45 1 v' (n + 1) (vals ++ [.slice (some ⟨w.heap.size, 0, none⟩) 3 3])) (hgr : ((w.alloc (.cells #[.int .i64 a, .int .i64 b, .int .i64 c] 3)).alloc (.cells #[.slice (some ⟨w.heap.size, 0, none⟩) 3 3] 45)).grownBy w2 v.ownBlock) (ha : a = (x : Int)) (hb : b = (y : Int)) (hc : c = (z : Int)) : OR w2 base v' (L ++ [[x, y, z]]) ∧ Below base w w2 := by
  subst ha hb hc
  have b1 := balloc w (.cells #[.int .i64 (x : Int), .int .i64 (y : Int), .int .i64 (z : Int)] 3)
  have b2 := balloc (w.alloc (.cells #[.int .i64 (x : Int), .int .i64 (y : Int), .int .i64 (z : Int)] 3)) (.cells #[.slice (some ⟨w.heap.size, 0, none⟩) 3 3] 45)
  have hr : ORow (w.alloc (.cells #[.int .i64 (x : Int), .int .i64 (y : Int), .int .i64 (z : Int)] 3)) base (.slice (some ⟨w.heap.size, 0, none⟩) 3 3) [x, y, z] := ⟨rfl, .inr ⟨w.heap.size, 3, _, rfl, hbs, heap_alloc_new w _, Nat.le_refl _, by unfold maxLen; omega, rfl, rfl⟩⟩
  have b12 := Below.next b1 b2
  refine ⟨OR.more (own_keep h1 fun b _ hb => b12.block b hb) (fun i u l e1 e2 => (h2 i u l e1 e2).below b12) (hr.below b2) (by rw [hn]; exact hown) hgr, ?_⟩
  exact (b12.mono hbs).grown hgr (by simp; omega) fun k hk => (h1.lt k hk).1
theorem dI_three {m h x y i : Nat} : ∀ b ∈ dI m h x y i, b.length = 3 := fun b hb => by
  unfold dI at hb
  obtain ⟨_, _, rfl⟩ := List.mem_map.1 hb
  rfl
theorem dX_three {m x : Nat} {f : Nat → Nat → Nat} : ∀ b ∈ dX m f x, b.length = 3 := fun b hb => by
  unfold dX at hb
  obtain ⟨_, _, hb⟩ := List.mem_flatMap.1 hb
  unfold dY at hb
  obtain ⟨_, _, hb⟩ := List.mem_flatMap.1 hb
  exact dI_three b hb
theorem slant_perm (m : Nat) (f : Nat → Nat → Nat) : ((dX m f m).map s3).Perm (slY m f m) := by
  rw [map_dX]
  unfold slY slX
  have e : (fun x => (List.range (m - (x + 1))).flatMap fun j => (dI m (f x (x + 1 + j)) x (x + 1 + j) 3).map s3) = fun x => (List.range (m - (x + 1))).flatMap fun j => (fun x y => slI m f x y 3) x (x + 1 + j) := by
    funext x
    refine congrArg (fun g => (List.range (m - (x + 1))).flatMap g) (funext fun j => ?_)
    unfold dI slI slC
    rw [List.map_map]
    refine List.map_congr_left fun i _ => ?_
    show s3 _ = s3 _
    rw [Nat.mul_comm i m, Nat.mul_comm ((i + 1) % 3) m, Nat.add_comm (m * i) x, Nat.add_comm (m * i), Nat.add_comm (m * ((i + 1) % 3))]
  rw [e]
  exact tri_perm (fun x y => slI m f x y 3) m
def docB (t : Nat) : List (List Nat) := dU (2 * t + 1) (2 * t + 1) ++ dX (2 * t + 1) (boF t (2 * t + 1)) (2 * t + 1)
def docK (t : Nat) : List (List Nat) := dkX t (2 * t) t ++ dX (2 * t) (skF t (2 * t)) (2 * t)
theorem docB_three (t : Nat) : ∀ b ∈ docB t, b.length = 3 := fun b hb => by
  rcases List.mem_append.1 hb with h | h
  · unfold dU at h
    obtain ⟨_, _, rfl⟩ := List.mem_map.1 h
    rfl
  · exact dX_three b h
theorem docK_three (t : Nat) : ∀ b ∈ docK t, b.length = 3 := fun b hb => by
  rcases List.mem_append.1 hb with h | h
  · unfold dkX at h
    obtain ⟨_, _, h⟩ := List.mem_flatMap.1 h
    rcases List.mem_cons.1 h with rfl | h
    · rfl
    · unfold dkI at h
      obtain ⟨_, _, rfl⟩ := List.mem_map.1 h
      rfl
  · exact dX_three b h
theorem s3_up (m x : Nat) : s3 [x, x + m, x + 2 * m] = s3 [0 * m + x, 1 * m + x, 2 * m + x] := by rw [Nat.zero_mul, Nat.one_mul, Nat.zero_add, Nat.add_comm m x, Nat.add_comm (2 * m) x]
theorem docB_perm (t : Nat) : ((docB t).map s3).Perm (boL t) := by
  unfold docB boL
  rw [List.map_append]
  refine List.Perm.append ?_ (slant_perm _ _)
  unfold dU upL
  rw [List.map_map]
  exact List.Perm.of_eq (List.map_congr_left fun x _ => s3_up _ x)
theorem docK_perm (t : Nat) : ((docK t).map s3).Perm (skL t) := by
  unfold docK skL
  rw [List.map_append]
  refine List.Perm.append ?_ (slant_perm _ _)
  unfold dkX skX
  rw [List.map_flatMap, List.flatMap_def, List.flatMap_def]
  refine List.Perm.of_eq (congrArg List.flatten (List.map_congr_left fun x _ => ?_))
  rw [List.map_cons, s3_up]
  refine congrArg _ ?_
  unfold dkI skI skC
  rw [List.map_map]
  refine List.map_congr_left fun i _ => ?_
  show s3 _ = s3 _
  rw [Nat.mul_comm i, Nat.mul_comm ((i + 1) % 3), Nat.add_comm (2 * t * i), Nat.add_comm (2 * t * ((i + 1) % 3))]
theorem Ordd.srtd {L M Z : List (List Nat)} (h : Ordd L Z) (hp : (L.map s3).Perm M) : Srtd M Z := ⟨h.perm.trans hp, h.ord⟩
set_option maxRecDepth 100000 in
set_option maxHeartbeats 16000000 in
theorem MakeOf_bo (n : Nat) (w : World) (h0 : 1 ≤ n) (h3 : n ≤ 33) (h6 : n % 6 = 3) :
    Calls Try.prog 10 #[.int .i64 (n : Int)] w fun e w' => ∃ x Z, e = .returned (.tuple #[.agg #[.int .i64 (n : Int), x], .int .i64 0]) ∧ Srtd (boL (n / 6)) Z ∧ Rw w' x (toZ Z) ∧ Below w.heap.size w w' := by
  have hd1 : decide ((n : Int) < 1) = false := by simp; omega
  have hd2 : decide ((33 : Int) < (n : Int)) = false := by simp; omega
  have hd3 : ¬ (n : Int) < 1 := by omega
  have hd4 : ¬ (33 : Int) < (n : Int) := by omega
  have hm6 : (n : Int).tmod 6 = 3 := by rw [Int.tmod_eq_emod_of_nonneg (by omega)]; omega
  have hq : (n : Int).tdiv 6 = ((n / 6 : Nat) : Int) := by rw [Int.tdiv_eq_ediv_of_nonneg (by omega)]; rfl
  have ht5 : n / 6 ≤ 5 := by omega
  have HSD : Hid (∀ Z, Ordd (docB (n / 6)) Z → Srtd (boL (n / 6)) Z) := fun Z h => h.srtd (docB_perm (n / 6))
  have HM3 : Hid (∀ b ∈ docB (n / 6), b.length = 3) := docB_three (n / 6)
  have HMD : Hid (∀ m, m = 2 * (n / 6) + 1 → dU m m ++ dX m (boF (n / 6) m) m = docB (n / 6)) := fun m e => by rw [e]; rfl
  clear h6
  generalize n / 6 = t at *
  generalize boL t = ML at *
  generalize docB t = MD at *
  obtain ⟨m, hm⟩ : ∃ m, m = 2 * t + 1 := ⟨_, rfl⟩
  have HME : Hid (dU m m ++ dX m (boF t m) m = MD) := HMD.out m hm
  have hm11 : m ≤ 11 := by omega
  have hm2 : (m : Int) = 2 * (t : Int) + 1 := by omega
  obtain ⟨i45, ji3, jz0, jz1, jz2⟩ := info36
  have hres0 : Hid ((w.alloc (.cells #[.int .i64 0, .slice none 0 0] 24)).heap[w.heap.size]? = some (.cells #[.int .i64 0, .slice none 0 0] 24 (0, 0))) := heap_alloc_new w _
  have HB0 : Hid (Below (w.heap.size + 1) (w.alloc (.cells #[.int .i64 0, .slice none 0 0] 24)) (w.alloc (.cells #[.int .i64 0, .slice none 0 0] 24))) := Below.refl _ _
  have HZ0 : Hid ((w.alloc (.cells #[.int .i64 0, .slice none 0 0] 24)).heap.size = w.heap.size + 1) := by show _ = _; simp
  obtain ⟨w0, Hw0⟩ : ∃ w0, Hid (w0 = w.alloc (.cells #[.int .i64 0, .slice none 0 0] 24)) := ⟨_, rfl⟩
  rw [← Hw0.out] at hres0 HB0 HZ0
  have HXE : Hid (dX m (boF t m) 0 = []) := rfl
  have HXS : Hid (∀ x, dX m (boF t m) (x + 1) = dX m (boF t m) x ++ dY m (boF t m) x (m - (x + 1))) := dX_succ m _
  have HYS : Hid (∀ x k, dY m (boF t m) x (k + 1) = dY m (boF t m) x k ++ dI m (boF t m x (x + 1 + k)) x (x + 1 + k) 3) := dY_succ m _
  have HXL : Hid (∀ x, x ≤ m → (dX m (boF t m) x).length ≤ 363) := fun x hx => by have := dX_len m (boF t m) hm11 x hx; omega
  have HYL : Hid (∀ x k, k ≤ m → (dY m (boF t m) x k).length ≤ 33) := fun x k hk => by rw [dY_len]; omega
  have HFD : Hid (∀ x y, x < y → y < m → boF t m x y ≤ 30) := fun x y h1 h2 => by
    have : boF t m x y < m := Nat.mod_lt _ (by omega)
    omega
    
  have HIO : Hid (∀ (W : World) (u : Value), Rw W u (toZ MD) → MD.length ≤ 6000 → Calls Try.prog 28 #[u] W fun e w' => ∃ x Z, e = .returned x ∧ Ordd MD Z ∧ OR w' W.heap.size x Z ∧ Below W.heap.size W w') := fun W u h h' => InOrder_any MD u W h HM3.out h'
  obtain ⟨FF, HFF⟩ : ∃ FF, Hid (boF t m = FF) := ⟨_, rfl⟩
  rw [HFF.out] at HME HXE HXS HYS HXL HYL HFD
  go_enter Try.func10, Try.ntmps10
  go_wp2
  rw [← hm2, ← Hw0.out]
  clear hm2 hm HMD
  go_loopw [4, 7] (fun lv xv wr => ∃ (x : Nat), xv = .int .i64 (x : Int) ∧ x ≤ m ∧ OR wr (w.heap.size + 1) lv (dU m x) ∧ Below (w.heap.size + 1) w0 wr) (fun _ xv _ => (m - intOf xv).toNat)
  case atStart => exact ⟨0, rfl, by omega, OR.nil _ _, HB0.out⟩
  case round =>
    obtain ⟨x, rfl, hx, hO, hB⟩ := hrel
    obtain ⟨oa, oc, rfl⟩ := hO.cap
    have hsz : w.heap.size + 1 ≤ wr.heap.size := by have := hB.size; have := HZ0.out; omega
    obtain ⟨LL, HLL⟩ : ∃ LL, Hid (dU m x = LL) := ⟨_, rfl⟩
    have hlen : LL.length = x := by rw [← HLL.out, dU_len]
    have HUS : Hid (dU m (x + 1) = LL ++ [[x, x + m, x + 2 * m]]) := by show _ = _; rw [dU_succ, HLL.out]
    rw [HLL.out] at hO ⊢
    obtain ⟨ln, HLN⟩ : ∃ ln, Hid (LL.length = ln) := ⟨_, rfl⟩
    rw [HLN.out] at hO hlen ⊢
    by_cases hlt : x < m
    · have hdi : decide ((x : Int) < (m : Int)) = true := by simp; omega
      have hii : (x : Int) < (m : Int) := by omega
      have hln9 : ln ≤ 999 := by omega
      clear hlen
      obtain ⟨vals, h1, h2⟩ := hO
      have H1 : Hid (wr.ownsRow (w.heap.size + 1) 45 1 (.slice oa ln oc) LL.length vals) := h1
      have H2 : Hid (∀ (i : Nat) (u : Value) (l : List Nat), vals[i]? = some u → LL[i]? = some l → ORow wr (w.heap.size + 1) u l) := h2
      rw [HLN.out] at h1
      clear h2
      go_wp2_with (first
        | (at_builtin; refine wpList_append_own _ rfl _ _ 22 rfl (w.heap.size + 1) 45 i45 (.slice none 0 0) 1 24 undR ji3 jz0 jz1 jz2 rfl (by decide) _ _ _ rfl ((h1.alloc _).alloc _) ⟨wr.heap.size + 1, 0, none⟩ 1 1 [.slice (some ⟨wr.heap.size, 0, none⟩) 3 3] rfl rfl ?c1 ?c2 ?c3 ?c4 ?c5 ?_)
        | go_in)
      case c1 =>
        intro j u hj
        match j, hj with
        | 0, hj => simp at hj; subst hj; simp [Addr.add]
      case c2 => intro u hu; simp at hu; subst hu; rfl
      case c3 => unfold maxLen; omega
      case c4 => omega
      case c5 => simp; omega
      · intro v' w2 hown' hgrow _
        have hap := or_app3 (L := LL) (x := x) (y := x + m) (z := x + 2 * m) H1.out H2.out HLN.out (by omega) hown' hgrow (by omega) (by omega) (by omega)
        rw [← HUS.out] at hap
        have hBn := hB.trans hap.2
        have hOn := hap.1
        clear hap hown' hgrow h1 hB
        go_wp2
        go_roundw
        case rel => exact ⟨x + 1, by go_num, by omega, hOn, hBn⟩
        case measure => simp [intOf]; omega
    · have hdi : decide ((x : Int) < (m : Int)) = false := by simp; omega
      have hxm : m = x := by omega
      subst hxm
      have HOP : Hid (OR wr (w.heap.size + 1) (.slice oa ln oc) LL) := hO
      have HBP : Hid (Below (w.heap.size + 1) w0 wr) := hB
      rw [HLL.out] at HME
      have HPL : Hid (LL.length ≤ 20) := by show _ ≤ _; rw [HLN.out]; omega
      clear hO hB HLL hlen hsz HUS HLN
      generalize LL = PP at *
      go_wp2
      go_loopw [4, 10] (fun lv xv wr => ∃ (x : Nat), xv = .int .i64 (x : Int) ∧ x ≤ m ∧ OR wr (w.heap.size + 1) lv (PP ++ dX m FF x) ∧ Below (w.heap.size + 1) w0 wr) (fun _ xv _ => (m - intOf xv).toNat)
      case atStart => exact ⟨0, rfl, by omega, by rw [HXE.out, List.append_nil]; exact HOP.out, HBP.out⟩
      case round =>
        clear HOP HBP
        obtain ⟨x, rfl, hx, hO, hB⟩ := hrel
        obtain ⟨oa, oc, rfl⟩ := hO.cap
        obtain ⟨Lx, HLx⟩ : ∃ Lx, Hid (PP ++ dX m FF x = Lx) := ⟨_, rfl⟩
        have hlx9 : Lx.length ≤ 400 := by rw [← HLx.out, List.length_append]; have := HXL.out x hx; have := HPL.out; omega
        rw [HLx.out] at hO ⊢
        by_cases hlt : x < m
        · have hdi : decide ((x : Int) < (m : Int)) = true := by simp; omega
          have hii : (x : Int) < (m : Int) := by omega
          have HXX : Hid (PP ++ dX m FF (x + 1) = Lx ++ dY m FF x (m - (x + 1))) := by show _ = _; rw [HXS.out, ← List.append_assoc, HLx.out]
          have HO1 : Hid (OR wr (w.heap.size + 1) (.slice oa Lx.length oc) Lx) := hO
          have HB1 : Hid (Below (w.heap.size + 1) w0 wr) := hB
          have HY0 : Hid (dY m FF x 0 = []) := rfl
          have HLXN : Hid (Lx.length ≤ 400) := hlx9
          generalize Lx.length = lxn at HO1 ⊢
          clear hO hB hlx9
          go_wp2
          go_loopw [4, 11] (fun lv yv wr => ∃ (k : Nat), yv = .int .i64 ((x : Int) + 1 + (k : Int)) ∧ x + 1 + k ≤ m ∧ OR wr (w.heap.size + 1) lv (Lx ++ dY m FF x k) ∧ Below (w.heap.size + 1) w0 wr) (fun _ yv _ => (m - intOf yv).toNat)
          case atStart => exact ⟨0, by simp, by omega, by rw [HY0.out, List.append_nil]; exact HO1.out, HB1.out⟩
          case round =>
            clear HO1 HB1
            obtain ⟨k, rfl, hk, hO, hB⟩ := hrel
            obtain ⟨oa, oc, rfl⟩ := hO.cap
            obtain ⟨Ly, HLy⟩ : ∃ Ly, Hid (Lx ++ dY m FF x k = Ly) := ⟨_, rfl⟩
            have HLYN : Hid (Ly.length ≤ 500) := by show _ ≤ _; rw [← HLy.out, List.length_append]; have := HYL.out x k (by omega); have := HLXN.out; omega
            rw [HLy.out] at hO ⊢
            have hYS := HYS.out x k
            obtain ⟨y, hy⟩ : ∃ y, y = x + 1 + k := ⟨_, rfl⟩
            have hyz : (x : Int) + 1 + (k : Int) = (y : Int) := by omega
            rw [hyz]
            rw [← hy] at hYS
            have HYY : Hid (Lx ++ dY m FF x (k + 1) = Ly ++ dI m (FF x y) x y 3) := by show _ = _; rw [hYS, ← List.append_assoc, HLy.out]
            have HKY : Hid (y = x + 1 + k) := hy
            clear hYS hyz
            by_cases hly : y < m
            · have hdy : decide ((y : Int) < (m : Int)) = true := by simp; omega
              have hyi : (y : Int) < (m : Int) := by omega
              have hxy : x < y := by omega
              have hfl := HFD.out x y hxy hly
              have HO1 : Hid (OR wr (w.heap.size + 1) (.slice oa Ly.length oc) Ly) := hO
              have HB1 : Hid (Below (w.heap.size + 1) w0 wr) := hB
              generalize Ly.length = lyn at HO1 ⊢
              clear hO hB hy hk
              have hp : (x + y) * (t + 1) ≤ 22 * 6 := Nat.mul_le_mul (by omega) (by omega)
              have hpm : ((x : Int) + (y : Int)) * ((t : Int) + 1) = (((x + y) * (t + 1) : Nat) : Int) := by simp
              have hF : FF x y = (x + y) * (t + 1) % m := by rw [← HFF.out]; rfl
              generalize (x + y) * (t + 1) = p at *
              have hmz : ¬ (m : Int) = 0 := by omega
              have hmz2 : ((m : Int) == 0) = false := by simp; omega
              have hr : (p : Int).tmod (m : Int) = ((p % m : Nat) : Int) := by rw [Int.tmod_eq_emod_of_nonneg (by omega)]; rfl
              rw [hF] at HYY hfl
              generalize p % m = h at *
              clear hF
              go_wp2
              go_loopw [4, 14] (fun lv iv wr => ∃ (i : Nat), iv = .int .i64 (i : Int) ∧ i ≤ 3 ∧ OR wr (w.heap.size + 1) lv (Ly ++ dI m h x y i) ∧ Below (w.heap.size + 1) w0 wr) (fun _ iv _ => (3 - intOf iv).toNat)
              case atStart => exact ⟨0, rfl, by omega, by rw [show dI m h x y 0 = [] from rfl, List.append_nil]; exact HO1.out, HB1.out⟩
              case round =>
                clear HO1 HB1
                obtain ⟨i, rfl, hi, hO, hB⟩ := hrel
                obtain ⟨oa, oc, rfl⟩ := hO.cap
                have hsz : w.heap.size + 1 ≤ wr.heap.size := by have := hB.size; have := HZ0.out; omega
                obtain ⟨LL, HLL⟩ : ∃ LL, Hid (Ly ++ dI m h x y i = LL) := ⟨_, rfl⟩
                have hlen : LL.length ≤ 600 := by rw [← HLL.out, List.length_append, dI_len]; have := HLYN.out; omega
                rw [HLL.out] at hO ⊢
                obtain ⟨ln, HLN⟩ : ∃ ln, Hid (LL.length = ln) := ⟨_, rfl⟩
                rw [HLN.out] at hO hlen ⊢
                by_cases hli : i < 3
                · have hdj : decide ((i : Int) < 3) = true := by simp; omega
                  have hji : (i : Int) < 3 := by omega
                  have HIS : Hid (Ly ++ dI m h x y (i + 1) = LL ++ [[x + m * i, y + m * i, h + m * ((i + 1) % 3)]]) := by show _ = _; rw [dI_succ, ← List.append_assoc, HLL.out]
                  have hrem : ((i : Int) + 1).tmod 3 = (((i + 1) % 3 : Nat) : Int) := by rw [Int.tmod_eq_emod_of_nonneg (by omega)]; rfl
                  have hr3 : (i + 1) % 3 ≤ 3 := by omega
                  generalize (i + 1) % 3 = r at *
                  have hpq : m * i ≤ 11 * 3 := Nat.mul_le_mul hm11 hi
                  have hqq : m * r ≤ 11 * 3 := Nat.mul_le_mul hm11 hr3
                  have hpm1 : (m : Int) * (i : Int) = ((m * i : Nat) : Int) := by simp
                  have hpm2 : (m : Int) * (r : Int) = ((m * r : Nat) : Int) := by simp
                  generalize m * i = pp at *
                  generalize m * r = qq at *
                  obtain ⟨vals, h1, h2⟩ := hO
                  have H1 : Hid (wr.ownsRow (w.heap.size + 1) 45 1 (.slice oa ln oc) LL.length vals) := h1
                  have H2 : Hid (∀ (i : Nat) (u : Value) (l : List Nat), vals[i]? = some u → LL[i]? = some l → ORow wr (w.heap.size + 1) u l) := h2
                  rw [HLN.out] at h1
                  clear h2
                  go_wp2_with (first
                    | (at_builtin; refine wpList_append_own _ rfl _ _ 22 rfl (w.heap.size + 1) 45 i45 (.slice none 0 0) 1 24 undR ji3 jz0 jz1 jz2 rfl (by decide) _ _ _ rfl ((h1.alloc _).alloc _) ⟨wr.heap.size + 1, 0, none⟩ 1 1 [.slice (some ⟨wr.heap.size, 0, none⟩) 3 3] rfl rfl ?c1 ?c2 ?c3 ?c4 ?c5 ?_)
                    | go_in)
                  case c1 =>
                    intro j u hj
                    match j, hj with
                    | 0, hj => simp at hj; subst hj; simp [Addr.add]
                  case c2 => intro u hu; simp at hu; subst hu; rfl
                  case c3 => unfold maxLen; omega
                  case c4 => omega
                  case c5 => simp; omega
                  · intro v' w2 hown' hgrow _
                    have hap := or_app3 (L := LL) (x := x + pp) (y := y + pp) (z := h + qq) H1.out H2.out HLN.out (by omega) hown' hgrow (by omega) (by omega) (by omega)
                    rw [← HIS.out] at hap
                    have hBn := hB.trans hap.2
                    have hOn := hap.1
                    clear hap hown' hgrow h1 hB
                    go_wp2
                    go_roundw
                    case rel => exact ⟨i + 1, by go_num, by omega, hOn, hBn⟩
                    case measure => simp [intOf]; omega
                · have hdj : decide ((i : Int) < 3) = false := by simp; omega
                  obtain rfl : i = 3 := by omega
                  rw [← HLL.out, ← HYY.out] at hO
                  go_wp2
                  go_roundw
                  case rel => exact ⟨k + 1, by have := HKY.out; simp; omega, by have := HKY.out; omega, hO, hB⟩
                  case measure => simp [intOf]; omega
            · have hdy : decide ((y : Int) < (m : Int)) = false := by simp; omega
              have hkm : m - (x + 1) = k := by omega
              rw [← HLy.out, ← hkm, ← HXX.out] at hO
              have hyl : Ly.length = (PP ++ dX m FF (x + 1)).length := by rw [HXX.out, hkm, HLy.out]
              have HOX : Hid (OR wr (w.heap.size + 1) (.slice oa Ly.length oc) (PP ++ dX m FF (x + 1))) := by rw [hyl]; exact hO
              generalize Ly.length = lyn at HOX ⊢
              clear hyl hkm hy hk hO HLYN
              go_wp2
              go_roundw
              case rel => exact ⟨x + 1, by go_num, by omega, HOX.out, hB⟩
              case measure => simp [intOf]; omega
        · have hdi : decide ((x : Int) < (m : Int)) = false := by simp; omega
          have hxm : m = x := by omega
          subst hxm
          rw [← HLx.out, HME.out] at hO
          have hxl : Lx.length = MD.length := by rw [← HLx.out, HME.out]
          rw [hxl] at hlx9 ⊢
          have C := HIO.out wr _ hO.rw (by omega)
          have HC : Hid (Calls Try.prog 28 #[.slice oa MD.length oc] wr fun e w' => ∃ x Z, e = .returned x ∧ Ordd MD Z ∧ OR w' wr.heap.size x Z ∧ Below wr.heap.size wr w') := C
          have hsz : w.heap.size + 1 ≤ wr.heap.size := by have := hB.size; have := HZ0.out; omega
          generalize MD.length = mdl at *
          clear C hO hxl
          go_wp2_with (go_at_call 28; refine HC.out.mono ?_; rintro e w1 ⟨z, Z, rfl, hS, hO, hb1⟩; clear HC; have hB1 : Below (w.heap.size + 1) w0 w1 := hB.trans (hb1.mono hsz); rw [Hw0.out] at hB1; obtain ⟨za, zc, rfl⟩ := hO.cap; obtain ⟨hr, h7, hR, hb7⟩ := made_box (p := (n : Int)) (n := 0) hB1 hsz hO rfl; have H7 : Hid (_ ∧ _ ∧ _) := ⟨h7, hR, hb7⟩; have z0 := frozen_of_row _ _ 0 _ _ hr; have z1 := frozen_of_row _ _ 1 _ _ hr; have y0 := cell_of_row _ _ 0 _ _ _ hr; have y1 := cell_of_row _ _ 1 _ _ _ hr; have HSZ : Hid (Srtd ML Z) := HSD.out Z hS; generalize Z.length = zl at *; clear hr h7 hR hb7 hB1 hb1 hS hO)
          exact post_d2 2 3 rfl rfl H7.out.1 rfl rfl ⟨_, Z, rfl, HSZ.out, H7.out.2.1, H7.out.2.2⟩

end Go.Proofs.Ytdeofjmgjhfkcaa
