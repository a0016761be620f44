/- The walk of the document's ListOf. -/
import Derived.Test.YtmaplmgecohjbaaP33
import Derived.Test.YtmaplmgecohjbaaP25
import Derived.Test.YtmaplmgecohjbaaG66
import Derived.Deep.AppendLies
import Derived.Test.YtmaplmgecohjbaaGLM
import Derived.Test.YtmaplmgecohjbaaP27
import Derived.Deep.RegionHeld3
/- The walks of Rank and PermRank. -/
namespace Go.Proofs.Ytmaplmgecohjbaa
open Go.RowKit

theorem all_succ (f : Nat → Nat) (x j : Nat) : ((List.range (j + 1)).all fun j' => f j' != x) = (((List.range j).all fun j' => f j' != x) && (f j != x)) := by
  rw [List.range_succ, List.all_append]; simp

set_option maxHeartbeats 2000000 in
theorem PermRank_any (n : Nat) (f : Nat → Nat) (v : Value) (w : World) (hn : n ≤ 12) (hv : Sl w v (pl n f)) (P : Pm n f) :
    Calls Try.prog 40 #[v] w fun e w' => e = .returned (.int .i64 (rkS n f n : Int)) ∧ w' = w := by
  have C := fun (m : Nat) A (h : m ≤ 12) => Factorial_any m A h
  obtain ⟨a, ca, rfl, hcv⟩ := hv
  rw [pl_len] at hcv ⊢
  have HV : Hid (∀ j, j < n → ∃ B off, a = some ⟨B, off, none⟩ ∧ w.cell? ⟨B, off + j, none⟩ = some (.int .i64 (f j : Int))) := fun j hj => by
    have := hcv j hj; rw [pl_at f hj] at this; exact this
  have HP : Hid (Pm n f) := P
  obtain ⟨zz, Hzz⟩ : ∃ zz, Hid (rkS n f n = zz) := ⟨_, rfl⟩
  rw [Hzz.out]
  clear hcv P
  go_enter Try.func40, Try.ntmps40
  go_wp2
  go_loop [3, 4] (fun x i => ∃ s k : Nat, x = .int .i64 s ∧ i = .int .i64 k ∧ k ≤ n ∧ Hid (rkS n f k = s)) (fun _ i => (n - intOf i).toNat)
  case atStart => exact ⟨0, 0, rfl, rfl, by omega, (rfl : rkS n f 0 = 0)⟩
  case round =>
    obtain ⟨s, k, rfl, rfl, hk, HS⟩ := hrel
    by_cases hlt : k < n
    · have hki : (k : Int) < n := by omega
      have hdec : decide ((k : Int) < n) = true := by simp; omega
      obtain ⟨b, off, rfl, hck⟩ := HV.out k hlt
      have HV2 : Hid (∀ j, j < n → w.cell? ⟨b, off + j, none⟩ = some (.int .i64 (f j : Int))) := by
        intro j hj
        obtain ⟨B', off', e, hc⟩ := HV.out j hj
        simp only [Option.some.injEq, Addr.mk.injEq, and_true] at e
        obtain ⟨rfl, rfl⟩ := e
        exact hc
      obtain ⟨t, Ht⟩ : ∃ x, Hid (f k = x) := ⟨_, rfl⟩
      have htn : t < n := by rw [← Ht.out]; exact HP.out.lt k hlt
      rw [Ht.out] at hck
      obtain ⟨m, Hm⟩ : ∃ m, Hid (n - 1 - k = m) := ⟨_, rfl⟩
      have hmi : (n : Int) - 1 - (k : Int) = (m : Int) := by rw [← Hm.out]; omega
      obtain ⟨y, Hy⟩ : ∃ y, Hid (les f k n = y) := ⟨_, rfl⟩
      have hy12 : y ≤ 12 := by rw [← Hy.out]; have := les_le f k n; omega
      have HFR : Hid (fre f k t = y) := by show fre f k t = y; rw [← Ht.out, fre_les HP.out hlt, Hy.out]
      obtain ⟨g, Hg⟩ : ∃ g, Hid (fac m = g) := ⟨_, rfl⟩
      have D := fun A => C m A (by rw [← Hm.out]; omega)
      rw [Hg.out] at D
      have hgb : g ≤ 479001600 := by rw [← Hg.out]; exact fac_le (by rw [← Hm.out]; omega)
      obtain ⟨p, Hp⟩ : ∃ p, Hid (y * g = p) := ⟨_, rfl⟩
      have hpi : (y : Int) * (g : Int) = (p : Int) := by rw [← Hp.out]; simp
      have hpb : p ≤ 12 * 479001600 := by rw [← Hp.out]; exact Nat.mul_le_mul hy12 hgb
      have hsb : s ≤ 12 * (12 * 479001600) := by
        rw [← HS.out]
        exact Nat.le_trans (rkS_le hn k) (Nat.mul_le_mul (by omega) (Nat.le_refl _))
      have HN : Hid (rkS n f (k + 1) = s + p) := by
        show rkS n f k + les f k n * fac (n - 1 - k) = s + p
        rw [HS.out, Hy.out, Hm.out, Hg.out, Hp.out]
      go_wp2
      go_loop [5, 6] (fun c i => ∃ c' x : Nat, c = .int .i64 c' ∧ i = .int .i64 x ∧ x ≤ t ∧ c' ≤ x ∧ Hid (fre f k x = c')) (fun _ i => (t - intOf i).toNat)
      case atStart => exact ⟨0, 0, rfl, rfl, by omega, by omega, (rfl : fre f k 0 = 0)⟩
      case round =>
        obtain ⟨c, x, rfl, rfl, hx, hcx, HF⟩ := hrel
        by_cases hxt : x < t
        · have hxti : (x : Int) < t := by omega
          have hxd : decide ((x : Int) < t) = true := by simp; omega
          have HFS := fre_succ f k x
          rw [HF.out] at HFS
          go_wp2
          go_loop [7, 8] (fun fr i => ∃ (e : Bool) (j : Nat), fr = .bool e ∧ i = .int .i64 j ∧ j ≤ k ∧ Hid (((List.range j).all fun j' => f j' != x) = e)) (fun _ i => (k - intOf i).toNat)
          case atStart => exact ⟨true, 0, rfl, rfl, by omega, (rfl : ((List.range 0).all fun j' => f j' != x) = true)⟩
          case round =>
            obtain ⟨e, j, rfl, rfl, hj, HE⟩ := hrel
            by_cases hjk : j < k
            · have hjki : (j : Int) < k := by omega
              have hjd : decide ((j : Int) < k) = true := by simp; omega
              have hjni : (j : Int) < n := by omega
              have hcj := HV2.out j (by omega)
              obtain ⟨u, Hu⟩ : ∃ u, Hid (f j = u) := ⟨_, rfl⟩
              rw [Hu.out] at hcj
              have hall := all_succ f x j
              rw [HE.out, Hu.out] at hall
              have HA : Hid (((List.range (j + 1)).all fun j' => f j' != x) = (e && (u != x))) := hall
              clear hall
              cases e with
              | true =>
                have hux : ((u : Int) != (x : Int)) = (u != x) := by
                  rw [Bool.eq_iff_iff]; simp only [bne_iff_ne, ne_eq]; omega
                rw [Bool.true_and] at HA
                obtain ⟨e', He'⟩ : ∃ e', Hid ((u != x) = e') := ⟨_, rfl⟩
                rw [He'.out] at hux HA
                go_wp2
                go_round
                case rel => exact ⟨e', j + 1, rfl, by go_num, by omega, HA⟩
                case measure => simp [intOf]; omega
              | false =>
                go_wp2
                go_round
                case rel => exact ⟨false, j + 1, rfl, by go_num, by omega, HA⟩
                case measure => simp [intOf]; omega
            · obtain rfl : j = k := by omega
              have hjd : decide ((j : Int) < (j : Int)) = false := by simp
              rw [HE.out] at HFS
              cases e with
              | true =>
                rw [if_pos rfl] at HFS
                have HF2 : Hid (fre f j (x + 1) = c + 1) := HFS
                clear HFS
                go_wp2
                go_round
                case rel => exact ⟨c + 1, x + 1, by go_num, by go_num, by omega, by omega, HF2⟩
                case measure => simp [intOf]; omega
              | false =>
                rw [if_neg (by simp)] at HFS
                have HF2 : Hid (fre f j (x + 1) = c) := HFS
                clear HFS
                go_wp2
                go_round
                case rel => exact ⟨c, x + 1, rfl, by go_num, by omega, by omega, HF2⟩
                case measure => simp [intOf]; omega
        · obtain rfl : x = t := by omega
          have hxd : decide ((x : Int) < (x : Int)) = false := by simp
          have hcy : c = y := by rw [← HF.out, HFR.out]
          subst hcy
          go_wp2_with (first
            | (go_at_call 37; refine (D _).mono ?_; rintro e w1 ⟨rfl, hw⟩; replace hw := hw.symm; subst hw))
          go_round
          case rel => exact ⟨s + p, k + 1, by go_num, by go_num, by omega, HN⟩
          case measure => simp [intOf]; omega
    · obtain rfl : k = n := by omega
      have hkd : decide ((k : Int) < (k : Int)) = false := by simp
      have : s = zz := by rw [← HS.out, Hzz.out]
      subst this
      go_wp2
      go_ret
      exact ⟨rfl, rfl⟩

end Go.Proofs.Ytmaplmgecohjbaa

/- The row that PermOfRank answers is its own. -/
namespace Go.Proofs.Ytmaplmgecohjbaa
open Go.RowKit

set_option maxRecDepth 100000 in
set_option maxHeartbeats 2000000 in
theorem PermOfRank_own (n k : Nat) (w : World) (hn : n ≤ 12) (hk : k < fac n) :
    Calls Try.prog 41 #[.int .i64 (n : Int), .int .i64 (k : Int)] w fun e w' => ∃ x, e = .returned (.tuple #[x, .int .i64 0]) ∧ w'.ownsRow w.heap.size 3 1 x n (vl (unrL n (List.range n) k)) ∧ Below w.heap.size w w' := by
  obtain ⟨i3, hi, hz0, hz1, hz2⟩ := info3
  obtain ⟨i4, qi, qz0, qz1, qz2⟩ := info4
  have C := fun (m : Nat) A (h : m ≤ 12) => Factorial_any m A h
  have HKF : Hid (k < fac n) := hk
  obtain ⟨goal, Hgoal⟩ : ∃ g, Hid (unrL n (List.range n) k = g) := ⟨_, rfl⟩
  have hgl : Hid (goal.length = n) := by rw [← Hgoal.out]; exact unrL_len _ _ _
  rw [Hgoal.out]
  have C0 := fun A => C n A hn
  obtain ⟨z, Hz⟩ : ∃ z, Hid (fac n = z) := ⟨_, rfl⟩
  rw [Hz.out] at C0 hk
  have hd0 : decide ((n : Int) < 0) = false := decide_eq_false (by omega)
  have hd1 : decide (12 < (n : Int)) = false := decide_eq_false (by omega)
  have hd2 : decide ((k : Int) < 0) = false := decide_eq_false (by omega)
  have hd3 : decide ((z : Int) ≤ (k : Int)) = false := decide_eq_false (by omega)
  go_enter Try.func41, Try.ntmps41
  go_wp2_with (first
    | (go_at_call 37; refine (C0 _).mono ?_; rintro e w1 ⟨rfl, hw⟩; replace hw := hw.symm; subst hw)
    | (at_make; refine wpList_make_full _ rfl _ _ 32 rfl w.heap.size 4 i4 (.bool false) 1 und52 qi qz0 qz1 .i64 .i64 (n : Int) (n : Int) n rfl rfl rfl rfl ?c1 ?c2 (Nat.le_refl _) ?_))
  case c1 => rw [qz2]; omega
  case c2 => unfold maxLen; omega
  intro w1 how1 hgr1
  have hO1 := ownB_made how1
  have hb1 : Below w.heap.size w w1 := ⟨hgr1.os, hgr1.tape, hgr1.output, hgr1.size, fun k hk => hgr1.block k hk (by simp)⟩
  clear how1 hgr1 hd2 hd3 hk C0
  go_wp2
  go_loopw [1, 7, 9] (fun kv ov iv wr => ∃ (kk i : Nat) (u : Nat → Bool) (done : List Nat), kv = .int .i64 kk ∧ iv = .int .i64 i ∧ i ≤ n ∧ OwnB wr w.heap.size n u ∧ wr.ownsRow (w.heap.size + 1) 3 1 ov i (vl done) ∧ Hid (done.length = i) ∧ Hid (kk < fac (n - i)) ∧ Hid ((lf n u).length = n - i) ∧ Hid (done ++ unrL (n - i) (lf n u) kk = goal) ∧ Below w.heap.size w wr) (fun _ _ iv _ => (n - intOf iv).toNat)
  case atStart =>
    refine ⟨k, 0, fun _ => false, [], rfl, rfl, by omega, hO1, World.ownsRow_nil _ _ _ _, (rfl : ([] : List Nat).length = 0), HKF, ?_, ?_, hb1⟩
    · show (lf n _).length = n - 0
      rw [lf_none]; simp
    · show [] ++ unrL (n - 0) (lf n _) k = goal
      rw [lf_none]; exact Hgoal.out
  case round =>
    clear hO1 hb1
    obtain ⟨kk, i, u, done, rfl, rfl, him, hO, hown, HD, HK, HL, HG, hB⟩ := hrel
    by_cases hin : i < n
    · have hini : (i : Int) < n := by omega
      have hind : decide ((i : Int) < n) = true := by simp; omega
      obtain ⟨m, Hm⟩ : ∃ m, Hid (n - 1 - i = m) := ⟨_, rfl⟩
      have hmi : (n : Int) - 1 - (i : Int) = (m : Int) := by rw [← Hm.out]; omega
      have hnm : n - i = m + 1 := by rw [← Hm.out]; omega
      have hnm' : n - (i + 1) = m := by rw [← Hm.out]; omega
      rw [hnm] at HK HL HG
      obtain ⟨g, Hg⟩ : ∃ g, Hid (fac m = g) := ⟨_, rfl⟩
      have D := fun A => C m A (by rw [← Hm.out]; omega)
      rw [Hg.out] at D
      have hg1 : 1 ≤ g := by rw [← Hg.out]; exact fac_pos m
      have hgb : g ≤ 479001600 := by rw [← Hg.out]; exact fac_le (by rw [← Hm.out]; omega)
      obtain ⟨at', Hat⟩ : ∃ a, Hid (kk / g = a) := ⟨_, rfl⟩
      obtain ⟨r, Hr⟩ : ∃ r, Hid (kk % g = r) := ⟨_, rfl⟩
      have hatm : at' < m + 1 := by rw [← Hat.out, ← Hg.out]; exact div_fac HK.out
      have hrg : r < g := by rw [← Hr.out]; exact Nat.mod_lt _ (by omega)
      have e1 : (kk : Int) / (g : Int) = (at' : Int) := by rw [← Hat.out, Int.natCast_ediv]
      have e2 : (kk : Int) % (g : Int) = (r : Int) := by rw [← Hr.out, Int.natCast_emod]
      have hgz : ((g : Int) == 0) = false := decide_eq_false (by omega)
      have hkkb : kk < 479001600 := Nat.lt_of_lt_of_le HK.out (fac_le (by omega))
      have hatb : at' ≤ 12 := by omega
      have hOl := hO.lt
      have HU : Hid (∀ x, (lf n u).getD at' 0 = x → unrL (m + 1) (lf n u) kk = x :: unrL m ((lf n u).eraseIdx at') r) := by
        intro x hx
        rw [unrL, Hg.out, Hat.out, Hr.out, hx]
      have HKm : Hid (r < fac m) := by show r < fac m; rw [Hg.out]; exact hrg
      clear hnm
      go_wp2_with (first
        | (go_at_call 37; refine (D _).mono ?_; rintro e w3 ⟨rfl, hw⟩; replace hw := hw.symm; subst hw))
      go_loopw [7, 10, 11] (fun ov sv xv wr' => ∃ (sk x : Nat), sv = .int .i64 sk ∧ xv = .int .i64 x ∧ x ≤ n ∧ sk ≤ 12 ∧ Hid ((lf x u).length + sk = at') ∧ ov = u7 ∧ wr' = wr) (fun _ _ xv _ => (n - intOf xv).toNat)
      case atStart => exact ⟨at', 0, rfl, rfl, by omega, hatb, (by show 0 + at' = at'; omega : (lf 0 u).length + at' = at'), rfl, rfl⟩
      case round =>
        obtain ⟨sk, x, rfl, rfl, hx, hsk, HS, h7, hwr⟩ := hrel
        subst h7 hwr
        by_cases hxn : x < n
        · have hxni : (x : Int) < n := by omega
          have hxd : decide ((x : Int) < n) = true := decide_eq_true hxni
          have hcx := hO.cell x hxn
          have hfx := hO.frozen x
          have hls := lf_succ x u
          cases hux : u x with
          | true =>
            rw [hux] at hcx
            rw [hux, if_pos rfl, List.append_nil] at hls
            have HS2 : Hid ((lf (x + 1) u).length + sk = at') := by show (lf (x + 1) u).length + sk = at'; rw [hls]; exact HS.out
            clear hls HS
            go_wp2
            go_roundw
            case rel => exact ⟨sk, x + 1, rfl, by go_num, by omega, hsk, HS2, rfl, trivial⟩
            case measure => simp [intOf]; omega
          | false =>
            rw [hux] at hcx
            rw [hux, if_neg (by simp)] at hls
            by_cases hs0 : sk = 0
            · subst hs0
              have hat := lf_at hux hxn (s := at') (by have := HS.out; omega)
              have HU2 := HU.out x hat.1
              have HN : Hid (lf n (upU u x) = (lf n u).eraseIdx at') := hat.2.1
              have HU3 : Hid (unrL (m + 1) (lf n u) kk = x :: unrL m ((lf n u).eraseIdx at') r) := HU2
              have HLt : Hid (at' < (lf n u).length) := hat.2.2
              have hs0d : (((0 : Nat) : Int) == 0) = true := by simp
              clear hls HS hat HU2 HU
              have hown' := own_other hown ⟨w.heap.size, x, none⟩ (.bool true) (by simp)
              have hO' := hO.set x
              have hB' := hB.setCell (p := ⟨w.heap.size, x, none⟩) (Nat.le_refl _) (.bool true)
              have hsz : (wr.setCell ⟨w.heap.size, x, none⟩ (.bool true)).heap.size = wr.heap.size := by simp
              have h12 : 0 ≤ 12 := by omega
              go_wp2_with (first
                | (at_builtin; refine wpList_append_own _ rfl _ _ 40 rfl (w.heap.size + 1) 3 i3 (.int .i64 0) 1 8 und22 hi hz0 hz1 hz2 rfl (by decide) _ _ _ rfl (hown'.alloc _) ⟨wr.heap.size, 0, none⟩ 1 1 [.int .i64 (x : Int)] rfl rfl ?c1 ?c2 ?c3 ?c4 ?c5 ?_))
              case c1 =>
                intro j u hj
                match j, hj with
                | 0, hj => simp at hj; subst hj; exact cell_new _ _ _ _ hsz
              case c2 => intro u hu; simp at hu; subst hu; rfl
              case c3 => unfold maxLen; omega
              case c4 => omega
              case c5 => simp; omega
              intro v' w4 hown4 hgrow _
              have hU4 : Below (w.heap.size + 1) (wr.setCell ⟨w.heap.size, x, none⟩ (.bool true)) w4 := ((Below.refl _ _).alloc (by simp; omega) _).grown hgrow (by simp; omega) (fun k hk => (hown'.lt k hk).1)
              have hO4 := hO'.below hU4 (by omega)
              have hB4 := hB'.trans (hU4.mono (by omega))
              go_wp2
              go_roundw
              case rel =>
                refine ⟨r, i + 1, upU u x, done ++ [x], rfl, by go_num, by omega, hO4, ?_, ?_, ?_, ?_, ?_, hB4⟩
                · rw [vl_append]; exact hown4
                · show (done ++ [x]).length = i + 1
                  rw [List.length_append, HD.out]; rfl
                · show r < fac (n - (i + 1))
                  rw [hnm']; exact HKm.out
                · show (lf n (upU u x)).length = n - (i + 1)
                  rw [HN.out, List.length_eraseIdx_of_lt HLt.out, HL.out, hnm']; omega
                · show done ++ [x] ++ unrL (n - (i + 1)) (lf n (upU u x)) r = goal
                  rw [hnm', HN.out, ← HG.out, HU3.out]; simp
              case measure => simp [intOf]; omega
            · obtain ⟨sk', rfl⟩ : ∃ sk', sk = sk' + 1 := ⟨sk - 1, by omega⟩
              have hs0d : (((sk' + 1 : Nat) : Int) == 0) = false := by simp; omega
              have hski : ((sk' + 1 : Nat) : Int) - 1 = (sk' : Int) := by omega
              have HS2 : Hid ((lf (x + 1) u).length + sk' = at') := by
                show (lf (x + 1) u).length + sk' = at'
                have := HS.out
                rw [hls, List.length_append, List.length_singleton]; omega
              clear hls HS
              go_wp2
              go_roundw
              case rel => exact ⟨sk', x + 1, rfl, by go_num, by omega, by omega, HS2, rfl, trivial⟩
              case measure => simp [intOf]; omega
        · obtain rfl : x = n := by omega
          have h1 := HS.out
          have h2 := HL.out
          omega
    · obtain rfl : i = n := by omega
      have hid : decide ((i : Int) < (i : Int)) = false := by simp
      go_wp2
      refine bodyPost_ret (v := .tuple #[_, .int .i64 0]) (by simp [results, Try.results41, go_sem]; rfl) rfl ⟨_, rfl, ?_, hB⟩
      have e : done = goal := by
        have := HG.out
        rw [Nat.sub_self, unrL, List.append_nil] at this
        exact this
      rw [← e]
      obtain ⟨h1, h2⟩ := hown
      exact ⟨h1, h2.imp_right fun ⟨g, c, cur, e, hb, hr⟩ => ⟨g, c, cur, e, by omega, hr⟩⟩

end Go.Proofs.Ytmaplmgecohjbaa

/- The walk of lists. -/
namespace Go.Proofs.Ytmaplmgecohjbaa
open Go.RowKit

/-- Of the first p points those whose least is f. -/
def bl (c : Nat → Nat) (p f : Nat) : List Nat := (List.range p).filter fun x => c x == f
theorem bl_succ (c : Nat → Nat) (p f : Nat) : bl c (p + 1) f = if c p = f then bl c p f ++ [p] else bl c p f := by
  unfold bl
  rw [List.range_succ, List.filter_append]
  by_cases h : c p = f <;> simp [h]
theorem bl_len (c : Nat → Nat) (p f : Nat) : (bl c p f).length ≤ p := by
  unfold bl
  have := List.length_filter_le (fun x => c x == f) (List.range p)
  rwa [List.length_range] at this
/-- Block B has n rows of numbers, each in memory of its own. -/
def Bh (w : World) (B n : Nat) (ls : Nat → List Nat) : Prop :=
  ∃ (us : Nat → Value) (cur : Array Value), w.heap[B]? = some (.cells cur 40 (0, 0)) ∧ (∀ i, i < n → cur[i]? = some (us i)) ∧ (∀ i, i < n → w.ownsRow (B + 1) 3 1 (us i) (ls i).length (vl (ls i))) ∧ ∀ i j, i < n → j < n → i ≠ j → ∀ g, (us i).ownBlock = some g → (us j).ownBlock ≠ some g
theorem Bh.made (w : World) (n : Nat) : Bh (w.alloc (.cells (madeCells #[.slice none 0 0] n) 40)) w.heap.size n (fun _ => []) := by
  refine ⟨fun _ => .slice none 0 0, _, heap_alloc_new w _, fun i hi => ?_, fun i _ => World.ownsRow_nil _ _ _ _, fun i j _ _ _ g hg => by cases hg⟩
  rw [Array.getElem?_eq_getElem (by rw [size_madeCells]; exact hi)]
  simp [madeCells, Nat.mod_one]
theorem Bh.congr {w : World} {B n : Nat} {ls ls' : Nat → List Nat} (h : Bh w B n ls) (e : ∀ i, i < n → ls i = ls' i) : Bh w B n ls' := by
  obtain ⟨us, cur, h1, h2, h3, h4⟩ := h
  exact ⟨us, cur, h1, h2, fun i hi => by rw [← e i hi]; exact h3 i hi, h4⟩
theorem Bh.lt {w : World} {B n : Nat} {ls : Nat → List Nat} (h : Bh w B n ls) : B < w.heap.size := by
  obtain ⟨us, cur, h1, _⟩ := h
  exact (Array.getElem?_eq_some_iff.1 h1).1
/-- What a row is, and the way back behind an append to it and a store. -/
theorem Bh.at {w : World} {B n : Nat} {ls : Nat → List Nat} (h : Bh w B n ls) {i : Nat} (hi : i < n) : ∃ u, w.cell? ⟨B, i, none⟩ = some u ∧ w.ownsRow (B + 1) 3 1 u (ls i).length (vl (ls i)) ∧ w.frozen? ⟨B, i, none⟩ = false ∧
    ∀ (w1 w2 : World) (u' : Value) (l' : List Nat), Below w.heap.size w w1 → w1.grownBy w2 u.ownBlock → w2.ownsRow (B + 1) 3 1 u' l'.length (vl l') → (u'.ownBlock = u.ownBlock ∨ u'.ownBlock = some w1.heap.size) →
      w2.cell? ⟨B, i, none⟩ = some u ∧ w2.frozen? ⟨B, i, none⟩ = false ∧ Bh (w2.setCell ⟨B, i, none⟩ u') B n (fun j => if j = i then l' else ls j) := by
  obtain ⟨us, cur, h1, h2, h3, h4⟩ := h
  have hBl : B < w.heap.size := (Array.getElem?_eq_some_iff.1 h1).1
  refine ⟨us i, ?_, h3 i hi, frozen_of_row w B i _ _ h1, fun w1 w2 u' l' hb hg hown hat => ?_⟩
  · rw [cell_of_row w B i _ _ _ h1, h2 i hi]
  have hne : some B ≠ (us i).ownBlock := fun e => by have := ((h3 i hi).lt B e.symm).1; omega
  have h1' : w2.heap[B]? = some (.cells cur 40 (0, 0)) := (hg.block B (Nat.lt_of_lt_of_le hBl hb.size) hne).trans ((hb.block B hBl).trans h1)
  refine ⟨by rw [cell_of_row w2 B i _ _ _ h1', h2 i hi], frozen_of_row w2 B i _ _ h1', ?_⟩
  refine ⟨fun j => if j = i then u' else us j, _, heap_setCell_same w2 B i _ _ _ h1', fun j hj => ?_, fun j hj => ?_, fun j k hj hk hjk g hgj hgk => ?_⟩
  · rw [Array.getElem?_setIfInBounds]
    by_cases e : i = j
    · subst e; rw [if_pos rfl, if_pos (Array.getElem?_eq_some_iff.1 (h2 i hi)).1]; simp
    · rw [if_neg e, h2 j hj]; simp [Ne.symm e]
  · refine own_other ?_ _ _ (by simp)
    by_cases e : j = i
    · subst e; simp only [if_pos]; exact hown
    · simp only [if_neg e]
      have ho := own_below (h3 j hj) hb
      refine World.ownsRow.kept ho hg ?_
      cases hv : (us j).ownBlock with
      | none => exact .inl rfl
      | some g => exact .inr fun e2 => h4 j i hj hi e g hv e2.symm
  · have old : ∀ t, t < n → t ≠ i → ∀ g, (us t).ownBlock = some g → u'.ownBlock ≠ some g := fun t ht hti g hgt hu => by
      rcases hat with h | h
      · exact h4 t i ht hi hti g hgt (by rw [← h]; exact hu)
      · rw [h] at hu
        have h5 := ((h3 t ht).lt g hgt).2
        have h6 := hb.size
        have h7 : w1.heap.size = g := by simpa using hu
        omega
    by_cases ej : j = i
    · by_cases ek : k = i
      · exact hjk (ej.trans ek.symm)
      · simp only [if_pos ej] at hgj; simp only [if_neg ek] at hgk
        exact old k hk ek g hgk hgj
    · by_cases ek : k = i
      · simp only [if_neg ej] at hgj; simp only [if_pos ek] at hgk
        exact old j hj ej g hgj hgk
      · simp only [if_neg ej] at hgj; simp only [if_neg ek] at hgk
        exact h4 j k hj hk hjk g hgj hgk
/-- A row of a slice of rows is as it was where another row is written. -/
theorem RowIs.grown {wa w2 : World} {base : Nat} {v u : Value} {l : List Nat} {n : Nat} {vals : List Value} (h1 : wa.ownsRow base 40 1 v n vals) (hgr : wa.grownBy w2 v.ownBlock) (h : RowIs wa base u l) : RowIs w2 base u l := by
  obtain ⟨g, cap, rfl, hg, hO⟩ := h
  have hl := hO.lt
  obtain ⟨cur, k1, k2⟩ := hO
  refine ⟨g, cap, rfl, hg, cur, (hgr.block g hl (fun e => ?_)).trans k1, k2⟩
  obtain ⟨_, ⟨rfl, _⟩ | ⟨g', cap', cur', rfl, _, hg', _⟩⟩ := h1
  · simp [Value.ownBlock] at e
  · have e2 : g = g' := by simpa [Value.ownBlock] using e
    subst e2
    rw [hg'] at k1
    simp at k1
/-- The rows of block B, to be read alone. -/
def Br (w : World) (B n : Nat) (us : Nat → Value) (ls : Nat → List Nat) : Prop := ∀ i, i < n → w.cell? ⟨B, i, none⟩ = some (us i) ∧ (∃ a c, us i = .slice a (ls i).length c) ∧ ((ls i) ≠ [] → RowIs w (B + 1) (us i) (ls i))
theorem Bh.read {w : World} {B n : Nat} {ls : Nat → List Nat} (h : Bh w B n ls) : ∃ us, Br w B n us ls := by
  obtain ⟨us, cur, h1, h2, h3, _⟩ := h
  refine ⟨us, fun i hi => ⟨by rw [cell_of_row w B i _ _ _ h1, h2 i hi], ?_, fun hne => ?_⟩⟩
  · obtain ⟨a, c, e, _⟩ := own_vl (h3 i hi) rfl
    exact ⟨a, c, by rw [e, List.length_map]⟩
  · have hp : 0 < (ls i).length := List.length_pos_iff.2 hne
    obtain ⟨g, cap, e, hb, hO⟩ := Own.of (l := (ls i).map Int.ofNat) (h3 i hi) hp
    refine ⟨g, cap, e, hb, hO.congr fun j hj => ?_⟩
    simp [hj]

theorem info23 : ∃ i, Try.prog.info? 40 = some i ∧ i.zero = some (.slice none 0 0) ∧ i.size = 1 ∧ i.bytes = 24 := by
  have h1 : (Try.prog.info? 40).map (·.zero) = some (some (.slice none 0 0)) := by kernel_rfl
  have h2 : (Try.prog.info? 40).map (·.size) = some 1 := by kernel_rfl
  have h3 : (Try.prog.info? 40).map (·.bytes) = some 24 := by kernel_rfl
  cases h : Try.prog.info? 40 with
  | none => rw [h] at h1; cases h1
  | some i =>
    rw [h] at h1 h2 h3
    exact ⟨i, rfl, Option.some.inj h1, Option.some.inj h2, Option.some.inj h3⟩
theorem und22' : Try.prog.underlying 28 = some (.slice 40) := by kernel_rfl
/-- The lists of a cut, by their least points. -/
def cutL (c : Nat → Nat) (n k : Nat) : List (List Nat) := ((List.range k).map fun f => bl c n f).filter fun l => !l.isEmpty
theorem cutL_succ (c : Nat → Nat) (n k : Nat) : cutL c n (k + 1) = if bl c n k = [] then cutL c n k else cutL c n k ++ [bl c n k] := by
  unfold cutL
  rw [List.range_succ, List.map_append, List.filter_append]
  by_cases h : bl c n k = []
  · simp [h]
  · have : (bl c n k).isEmpty = false := by simpa using h
    simp [h, this]
theorem cutL_len (c : Nat → Nat) (n k : Nat) : (cutL c n k).length ≤ k := by
  unfold cutL
  refine Nat.le_trans (List.length_filter_le _ _) ?_
  simp
theorem ownM {w w' : World} {b : Nat} {f : Nat → Int} {T : Nat} (h : MRow T w b f) (e : w'.heap[b]? = w.heap[b]?) : MRow T w' b f := e.trans h

end Go.Proofs.Ytmaplmgecohjbaa

/- The law GroupCloses, walked. -/
namespace Go.Proofs.Ytmaplmgecohjbaa
open Go.RowKit

theorem ThenL_any (n : Nat) (a b : List Nat) (v u : Value) (w : World) (hn : n ≤ 7) (hv : Sl w v (a.map Int.ofNat)) (hu : Sl w u (b.map Int.ofNat)) (ha : IsP n a) (hb : b.length = n) :
    Calls Try.prog 39 #[v, u] w fun e w' => (∃ x, e = .returned x ∧ w'.ownsRow w.heap.size 3 1 x n (vl (thenL a b)) ∧ Sl w' x ((thenL a b).map Int.ofNat)) ∧ Below w.heap.size w w' := by
  rw [← pl_map ha.len] at hv
  rw [← pl_map hb] at hu
  refine (Then_any n _ _ v u w (by omega) hv hu (fun i hi => ha.at hi)).mono ?_
  rintro e w' ⟨x, rfl, h1, h2⟩
  have e1 : (pl n fun i => b.getD (a.getD i 0) 0) = (thenL a b).map Int.ofNat := by
    rw [← pl_map (l := thenL a b) (by rw [thenL_len, ha.len])]
    exact pl_congr fun i hi => by rw [thenL_at ha.len hi]
  rw [e1] at h1
  have hl : ((thenL a b).map Int.ofNat).length = n := by rw [List.length_map, thenL_len, ha.len]
  exact ⟨⟨x, rfl, h1, Sl.owned (by rw [hl]; exact h1)⟩, h2⟩
end Go.Proofs.Ytmaplmgecohjbaa

/- The walks of the document's Members, ListOf. -/
namespace Go.Proofs.Ytmaplmgecohjbaa
open Go.RowKit

theorem und32 : Try.prog.underlying 32 = some (.slice 4) := by kernel_rfl
theorem info4' : ∃ i, Try.prog.info? 4 = some i ∧ i.zero = some (.bool false) ∧ i.size = 1 ∧ i.bytes = 1 := by
  have h1 : (Try.prog.info? 4).map (·.zero) = some (some (.bool false)) := by kernel_rfl
  have h2 : (Try.prog.info? 4).map (·.size) = some 1 := by kernel_rfl
  have h3 : (Try.prog.info? 4).map (·.bytes) = some 1 := by kernel_rfl
  cases h : Try.prog.info? 4 with
  | none => rw [h] at h1; cases h1
  | some i =>
    rw [h] at h1 h2 h3
    exact ⟨i, rfl, Option.some.inj h1, Option.some.inj h2, Option.some.inj h3⟩
theorem run_make4 (n : Nat) (hn : n ≤ 100000000) (w : World) : (Instr.makeSlice 32 (.int .i64 (n : Int)) (.int .i64 (n : Int))).run Try.prog w = .ok (.slice (some ⟨w.heap.size, 0, none⟩) n n) (w.alloc (.cells (madeCells #[.bool false] n) 4)) := by
  obtain ⟨i4, hi, hz0, hz1, hz2⟩ := info4'
  have h := run_make (P := Try.prog) w 32 4 i4 (.bool false) und32 hi hz0 .i64 .i64 n n (by omega) (by omega) (by rw [hz2]; omega) (by omega)
  rw [hz1] at h
  simpa [Value.cells] using h
theorem ownB_new (w : World) (n : Nat) : OwnB (w.alloc (.cells (madeCells #[.bool false] n) 4)) w.heap.size n (fun _ => false) := by
  refine ⟨_, heap_alloc_new w _, fun j hj => ?_⟩
  rw [Array.getElem?_eq_getElem (by rw [size_madeCells]; exact hj)]
  simp [madeCells, Nat.mod_one]
theorem ownB_new1 (w : World) (n : Nat) : OwnB (w.alloc (.cells ((madeCells #[.bool false] n).setIfInBounds 0 (.bool true)) 4)) w.heap.size n (upU (fun _ => false) 0) := by
  refine ⟨_, heap_alloc_new w _, fun j hj => ?_⟩
  unfold upU
  by_cases e : j = 0
  · subst e
    rw [if_pos rfl, Array.getElem?_setIfInBounds_self_of_lt (by rw [size_madeCells]; exact hj)]
  · rw [if_neg e, Array.getElem?_setIfInBounds_ne (by omega), Array.getElem?_eq_getElem (by rw [size_madeCells]; exact hj)]
    simp [madeCells, Nat.mod_one]
theorem OwnB.congr {w : World} {g n : Nat} {f f' : Nat → Bool} (h : OwnB w g n f) (e : ∀ j, j < n → f j = f' j) : OwnB w g n f' := by
  obtain ⟨cur, h, hc⟩ := h
  exact ⟨cur, h, fun j hj => by rw [hc j hj, e j hj]⟩
theorem OwnB.block {w w' : World} {g n : Nat} {f : Nat → Bool} (h : OwnB w g n f) (e : w'.heap[g]? = w.heap[g]?) : OwnB w' g n f := by
  obtain ⟨cur, h, hc⟩ := h
  exact ⟨cur, e.trans h, hc⟩
theorem RankL_any (n : Nat) (a : List Nat) (v : Value) (w : World) (hn : n ≤ 7) (hv : Sl w v (a.map Int.ofNat)) (ha : IsP n a) : Calls Try.prog 40 #[v] w fun e w' => e = .returned (.int .i64 (rnk n a : Int)) ∧ w' = w := by
  rw [← pl_map ha.len] at hv
  exact PermRank_any n _ v w (by omega) hv ha.pm
theorem row_of {w : World} {base n : Nat} {x : Value} {l : List Nat} (h : w.ownsRow base 3 1 x n (vl l)) (hl : l.length = n) (hn : 0 < n) : RowIs w base x l := by
  obtain ⟨g, cap, e, hb, hO⟩ := Own.of (l := l.map Int.ofNat) h hn
  refine ⟨g, cap, by rw [e, hl], hb, ?_⟩
  rw [hl]
  refine hO.congr fun j hj => ?_
  simp [hl, hj]
theorem RowIs.base {w : World} {b b' : Nat} {u : Value} {l : List Nat} (h : RowIs w b u l) (hb : b' ≤ b) : RowIs w b' u l := by
  obtain ⟨g, cap, e, h1, h2⟩ := h
  exact ⟨g, cap, e, by omega, h2⟩
theorem RowIs.below {w w' : World} {base : Nat} {u : Value} {l : List Nat} (h : RowIs w base u l) (hb : Below w.heap.size w w') : RowIs w' base u l := by
  obtain ⟨g, cap, e, h1, h2⟩ := h
  exact ⟨g, cap, e, h1, h2.below hb⟩
theorem CycR.below {w w' : World} {base : Nat} {v : Value} {ls : List (List Nat)} (h : CycR w base v ls) (hb : Below w.heap.size w w') : CycR w' base v ls := by
  obtain ⟨vals, h1, h2⟩ := h
  exact ⟨vals, orow_below h1 hb, fun i u l hu hl => (h2 i u l hu hl).below hb⟩
theorem CycR.one {w : World} {base : Nat} {u : Value} {l : List Nat} (h : RowIs w base u l) (hb : base ≤ w.heap.size) : CycR (w.alloc (.cells #[u] 40)) base (.slice (some ⟨w.heap.size, 0, none⟩) 1 1) [l] := by
  refine ⟨[u], ⟨rfl, .inr ⟨w.heap.size, 1, #[u], rfl, hb, heap_alloc_new w _, Nat.le_refl _, by unfold maxLen; omega, rfl, rfl⟩⟩, fun i u' l' h1 h2 => ?_⟩
  cases i with
  | zero =>
    obtain rfl : u = u' := by simpa using h1
    obtain rfl : l = l' := by simpa using h2
    exact h.below (balloc _ _)
  | succ i => simp at h1
/-- The members that are marked. -/
noncomputable def inB (n : Nat) (L : List (List Nat)) : Nat → Bool := open Classical in fun k => decide (unr n k ∈ L)
theorem inB_at {n : Nat} {L : List (List Nat)} {y : List Nat} (hy : IsP n y) : (inB n L (rnk n y) = true ↔ y ∈ L) := by
  unfold inB
  rw [decide_eq_true_iff, unr_rnk hy]
theorem inB_add {n : Nat} {L : List (List Nat)} {y : List Nat} (hy : IsP n y) (hn : y ∉ L) : ∀ k, k < fac n → upU (inB n L) (rnk n y) k = inB n (addL L y) k := by
  intro k hk
  unfold upU inB addL
  rw [if_neg hn]
  by_cases e : k = rnk n y
  · rw [if_pos e, e, unr_rnk hy]; simp
  · rw [if_neg e]
    have : unr n k ≠ y := fun h => e (by rw [← h, rnk_unr hk])
    simp [this]

set_option maxRecDepth 100000 in
set_option maxHeartbeats 8000000 in
theorem Members_any (n : Nat) (ms : List (List Nat)) (v : Value) (w : World) (hn : n ≤ 7) (h1 : 1 ≤ n) (hk : ms.length ≤ 100000) (hv : SlSl w v ms) (hm : ∀ m ∈ ms, IsP n m) :
    Calls Try.prog 16 #[.int .i64 (n : Int), v] w fun e w' => (∃ (g : Nat) (L : List (List Nat)), e = .returned (.slice (some ⟨g, 0, none⟩) (fac n) (fac n)) ∧ w.heap.size ≤ g ∧ OwnB w' g (fac n) (inB n L) ∧ ∀ a, a ∈ L ↔ Gen n ms a) ∧ Below w.heap.size w w' := by
  obtain ⟨k, Hk⟩ : ∃ k, Hid (ms.length = k) := ⟨_, rfl⟩
  obtain ⟨a, cap, rfl, _⟩ := id hv
  have HV : Hid (SlSl w (.slice a ms.length cap) ms) := hv
  rw [Hk.out] at HV hk ⊢
  have HMS : Hid (∀ m ∈ ms, IsP n m) := hm
  clear hv hm
  obtain ⟨i23, hi, hz0, hz1, hz2⟩ := info23
  have HI2 : Hid (Try.prog.info? 40 = some i23 ∧ i23.zero = some (.slice none 0 0) ∧ i23.size = 1 ∧ i23.bytes = 24) := ⟨hi, hz0, hz1, hz2⟩
  clear hi hz0 hz1 hz2
  have C0 := fun W => Factorial_any n W (by omega)
  have hfb : fac n ≤ 5040 := by have h := fac_mono hn; have h3 : fac 7 = 5040 := (by decide); omega
  have hf1 := fac_pos n
  have C1 := fun W => Still_any n W (by omega)
  have HFR : Hid (∀ y, rnk n y < fac n) := rnk_lt n
  have HIN0 : Hid (∀ j, j < fac n → upU (fun _ => false) 0 j = inB n [idL n] j) := fun j hj => by
    have h := inB_add (n := n) (L := []) (isP_id n) (by simp) j hj
    rw [rnk_id] at h
    have e1 : addL [] (idL n) = [idL n] := by unfold addL; simp
    rw [e1] at h
    rw [← h]
    unfold upU inB
    simp
  have hO0 := ownB_new w (fac n)
  have hmk := run_make4 (fac n) (by omega)
  have HIB : Hid (∀ L y, IsP n y → y ∉ L → ∀ k, k < fac n → upU (inB n L) (rnk n y) k = inB n (addL L y) k) := fun L y h1 h2 => inB_add h1 h2
  obtain ⟨z, Hz⟩ : ∃ z, Hid (fac n = z) := ⟨_, rfl⟩
  rw [Hz.out] at C0 hfb hf1 HFR HIN0 HIB hO0 hmk ⊢
  have hO1 := ownB_new1 w z
  have hcl0 := hO0.cell 0 (by omega)
  have hfr0 := hO0.frozen 0
  have hB0 : Below w.heap.size w (w.alloc (.cells ((madeCells #[.bool false] z).setIfInBounds 0 (.bool true)) 4)) := balloc w _
  have hzi : (0 : Int) < (z : Int) := by omega
  go_enter Try.func16, Try.ntmps16
  go_wp2_with (first
    | (go_at_call 37; refine (C0 _).mono ?_; rintro e w1 ⟨rfl, hw⟩; replace hw := hw.symm; subst hw)
    | (go_at_call 38; refine (C1 _).mono ?_; rintro e w2 ⟨s, rfl, hs, b2⟩; obtain ⟨sa, sc, hse⟩ : ∃ sa sc, s = .slice sa n sc := (by obtain ⟨_, ⟨_, e2⟩ | ⟨g, c, cur, e, _⟩⟩ := hs; (exact absurd e2 (by omega)); (exact ⟨_, c, e⟩)); subst hse))
  have hO2 := hO1.below b2 (by rw [World.size_alloc]; omega)
  have hB2 := Below.next hB0 b2
  have hsz2 : w.heap.size + 1 ≤ w2.heap.size := by have := b2.size; simpa using this
  have hs' : RowIs w2 (w.heap.size + 1) (.slice sa n sc) (idL n) := by
    have e1 : (pl n fun x => x).map (Value.int .i64) = vl (idL n) := by
      unfold vl
      rw [← pl_map (l := idL n) (idL_len n)]
      congr 1
      exact pl_congr fun i hi => (idL_at hi).symm
    rw [e1] at hs
    have h := row_of hs (idL_len n) (by omega)
    exact h.base (by simp)
  have hcy := CycR.one hs' hsz2
  have hO3 := (hO2.below (balloc w2 (.cells #[.slice sa n sc] 40)) (by omega)).congr HIN0.out
  have hB3 := hB2.alloc hB2.size (.cells #[.slice sa n sc] 40)
  have hs3 : w.heap.size + 1 ≤ (w2.alloc (.cells #[.slice sa n sc] 40)).heap.size := by simp; omega
  clear C0 C1 hO0 hO1 hO2 hcl0 hfr0 hB0 b2 hB2 hs hs' hmk
  go_loopw [8, 9] (fun lv i wr => ∃ (t : Nat) (L : List (List Nat)), i = .int .i64 t ∧ t ≤ L.length ∧ Hid (MadeS n ms L) ∧ Hid (Clo ms L t 0) ∧ CycR wr (w.heap.size + 1) lv L ∧ OwnB wr w.heap.size z (inB n L) ∧ w.heap.size + 1 ≤ wr.heap.size ∧ Below w.heap.size w wr) (fun _ i _ => (5041 - intOf i).toNat)
  case atStart => exact ⟨0, [idL n], rfl, by simp, (⟨by simp, by simp, fun a h => by rw [List.mem_singleton.1 h]; exact .one⟩ : MadeS n ms [idL n]), Clo.start, hcy, hO3, hs3, hB3⟩
  case round =>
    clear hcy hO3 hs3 hB3
    obtain ⟨t, L, rfl, ht, HS, HC, hcy, hO, hs, hB⟩ := hrel
    have hlen := HS.out.len HMS.out hn
    obtain ⟨r, Hr⟩ : ∃ r, Hid (L.length = r) := ⟨_, rfl⟩
    obtain ⟨la, lc, hle⟩ := hcy.form
    rw [Hr.out] at hle ht hlen
    subst hle
    by_cases hlt : t < r
    · have hti : (t : Int) < r := by omega
      have hdec : decide ((t : Int) < r) = true := by simp; omega
      go_wp2
      go_loopw [8, 10] (fun lv i wr => ∃ (j : Nat) (L' : List (List Nat)), i = .int .i64 j ∧ j ≤ k ∧ t < L'.length ∧ Hid (MadeS n ms L') ∧ Hid (Clo ms L' t j) ∧ CycR wr (w.heap.size + 1) lv L' ∧ OwnB wr w.heap.size z (inB n L') ∧ w.heap.size + 1 ≤ wr.heap.size ∧ Below w.heap.size w wr) (fun _ i _ => (k - intOf i).toNat)
      case atStart => exact ⟨0, L, rfl, by omega, by have := Hr.out; omega, HS, HC, hcy, hO, hs, hB⟩
      case round =>
        clear hcy hO hs hB HS HC hlen Hr ht hlt hti hdec
        obtain ⟨j, L', rfl, hj, htl, HS, HC, hcy, hO, hs, hB⟩ := hrel
        have hlen := HS.out.len HMS.out hn
        obtain ⟨r, Hr⟩ : ∃ r, Hid (L'.length = r) := ⟨_, rfl⟩
        obtain ⟨la, lc, hle⟩ := hcy.form
        rw [Hr.out] at hle htl hlen
        subst hle
        by_cases hlt : j < k
        · have hji : (j : Int) < k := by omega
          have hj0 : (0 : Int) ≤ (j : Int) := by omega
          have hdec : decide ((j : Int) < k) = true := by simp; omega
          have hti : (t : Int) < r := by omega
          have ht0 : (0 : Int) ≤ (t : Int) := by omega
          obtain ⟨x, hx⟩ : ∃ x, L'[t]? = some x := ⟨L'[t]'(by have := Hr.out; omega), by simp⟩
          obtain ⟨m, hmj⟩ : ∃ m, ms[j]? = some m := ⟨ms[j]'(by have := Hk.out; omega), by simp⟩
          have hxP := HS.out.isP HMS.out x (List.mem_of_getElem? hx)
          have hmP := HMS.out m (List.mem_of_getElem? hmj)
          obtain ⟨lb, lo, ux, hla, hlbw, hcx, hsx⟩ := hcy.at hx
          subst hla
          obtain ⟨mb, mo, um, rfl, hmbw, hcm, hsm⟩ := HV.out.at hmj
          have hcm2 := (hB.cell (p := ⟨mb, mo + j, none⟩) hmbw).trans hcm
          have hsm2 := hsm.below hB
          have HLM : Hid (lb < wr.heap.size ∧ mb < wr.heap.size) := ⟨hlbw, Nat.lt_of_lt_of_le hmbw hB.size⟩
          obtain ⟨xa, xc, hxe⟩ : ∃ a c, ux = .slice a n c := by obtain ⟨a, c, e, _⟩ := hsx; exact ⟨a, c, by rw [e, List.length_map, hxP.len]⟩
          obtain ⟨ma, mc, hme⟩ : ∃ a c, um = .slice a n c := by obtain ⟨a, c, e, _⟩ := hsm; exact ⟨a, c, by rw [e, List.length_map, hmP.len]⟩
          have C := ThenL_any n x m ux um wr.drew hn hsx hsm2 hxP hmP.len
          have hyP := hxP.then hmP
          have D := fun u W (h : Sl W u ((thenL x m).map Int.ofNat)) => RankL_any n (thenL x m) u W hn h hyP
          have hrk := HFR.out (thenL x m)
          have HNX : Hid (Clo ms (addL L' (thenL x m)) t (j + 1)) := HC.out.next (by have := Hr.out; omega) hx hmj
          have HNS : Hid (MadeS n ms (addL L' (thenL x m))) := HS.out.add (List.mem_of_getElem? hx) (List.mem_of_getElem? hmj)
          have HYL : Hid ((thenL x m).length = n) := hyP.len
          have HYM : Hid (inB n L' (rnk n (thenL x m)) = true ↔ thenL x m ∈ L') := inB_at hyP
          have HYA : Hid (thenL x m ∉ L' → ∀ k, k < z → upU (inB n L') (rnk n (thenL x m)) k = inB n (addL L' (thenL x m)) k) := fun h => HIB.out L' _ hyP h
          subst hxe hme
          obtain ⟨y, Hy⟩ : ∃ y, Hid (thenL x m = y) := ⟨_, rfl⟩
          simp only [Hy.out] at C D hrk HNX HNS HYL HYM HYA
          obtain ⟨q, Hq⟩ : ∃ q, Hid (rnk n y = q) := ⟨_, rfl⟩
          rw [Hq.out] at D hrk HYM HYA
          obtain ⟨bq, Hbq⟩ : ∃ bq, Hid (inB n L' q = bq) := ⟨_, rfl⟩
          rw [Hbq.out] at HYM
          have hqi : (q : Int) < (z : Int) := by omega
          have hq0 : (0 : Int) ≤ (q : Int) := by omega
          clear hx hmj hxP hmP hsx hsm hsm2 hcm hyP
          go_wp2_with fail
          refine wp_region_noPanic ?_
          refine wp_region_held_drew (S := fun w' => w'.cell? ⟨lb, lo + t, none⟩ = some (.slice xa n xc) ∧ w'.cell? ⟨mb, mo + j, none⟩ = some (.slice ma n mc)) (by kernel_rfl) (⟨hcx, hcm2⟩) (fun hSx => ?_)
          refine wpAnyH_take (i := 0) (v := .slice (some ⟨lb, lo, none⟩) r lc) rfl (by kernel_rfl) (by kernel_rfl) (by kernel_rfl) (fun _ _ _ h => h) (Or.inl ⟨by rfl, fun w' hSw => by (try dsimp only at hSw); go_simp⟩) hSx ?_
          try simp only [Act.put, List.setIfInBounds_toArray]
          refine wpAnyH_take (i := 1) (v := .int .i64 (t : Int)) rfl (by kernel_rfl) (by kernel_rfl) (by kernel_rfl) (fun _ _ _ h => h) (Or.inl ⟨by rfl, fun w' hSw => by (try dsimp only at hSw); go_simp⟩) hSx ?_
          try simp only [Act.put]
          refine wpAnyH_take (i := 2) (v := .pointer (some ⟨lb, lo + t, none⟩)) rfl (by kernel_rfl) (by kernel_rfl) (by kernel_rfl) (fun _ _ _ h => h) (Or.inl ⟨by rfl, fun w' hSw => by (try dsimp only at hSw); go_simp⟩) hSx ?_
          try simp only [Act.put]
          refine wpAnyH_take (i := 3) (v := .slice xa n xc) rfl (by kernel_rfl) (by kernel_rfl) (by kernel_rfl) (fun _ _ _ h => h) (Or.inl ⟨by rfl, fun w' hSw => by (try dsimp only at hSw); go_simp⟩) hSx ?_
          try simp only [Act.put]
          refine wpAnyH_take (i := 4) (v := .slice (some ⟨mb, mo, none⟩) k cap) rfl (by kernel_rfl) (by kernel_rfl) (by kernel_rfl) (fun _ _ _ h => h) (Or.inl ⟨by rfl, fun w' hSw => by (try dsimp only at hSw); go_simp⟩) hSx ?_
          try simp only [Act.put]
          refine wpAnyH_take (i := 5) (v := .int .i64 (j : Int)) rfl (by kernel_rfl) (by kernel_rfl) (by kernel_rfl) (fun _ _ _ h => h) (Or.inl ⟨by rfl, fun w' hSw => by (try dsimp only at hSw); go_simp⟩) hSx ?_
          try simp only [Act.put]
          refine wpAnyH_take (i := 6) (v := .pointer (some ⟨mb, mo + j, none⟩)) rfl (by kernel_rfl) (by kernel_rfl) (by kernel_rfl) (fun _ _ _ h => h) (Or.inl ⟨by rfl, fun w' hSw => by (try dsimp only at hSw); go_simp⟩) hSx ?_
          try simp only [Act.put]
          refine wpAnyH_take (i := 7) (v := .slice ma n mc) rfl (by kernel_rfl) (by kernel_rfl) (by kernel_rfl) (fun _ _ _ h => h) (Or.inl ⟨by rfl, fun w' hSw => by (try dsimp only at hSw); go_simp⟩) hSx ?_
          try simp only [Act.put]
          refine wpAnyH_ready (rs := [8]) (by kernel_rfl) (by simp) ?_
          refine AllReadyH.cons rfl (fun J hJ => ?_) AllReadyH.nil
          go_simp
          refine (C).mono ?_
          rintro e w4 ⟨⟨y1, rfl, hown4, hsl4⟩, b4⟩
          have hS4 : w4.cell? ⟨lb, lo + t, none⟩ = some (.slice xa n xc) ∧ w4.cell? ⟨mb, mo + j, none⟩ = some (.slice ma n mc) := ⟨(b4.cell (p := ⟨lb, lo + t, none⟩) HLM.out.1).trans hcx, (b4.cell (p := ⟨mb, mo + j, none⟩) HLM.out.2).trans hcm2⟩
          go_wp2_with fail
          refine hJ.out _ _ hS4 (fun _ => ?_)
          clear hJ J
          try simp only [Act.put, List.setIfInBounds_toArray, List.set_cons_zero, List.set_cons_succ]
          refine wpAnyH_ready (rs := [9]) (by kernel_rfl) (by simp) ?_
          refine AllReadyH.cons rfl (fun J hJ => ?_) AllReadyH.nil
          go_simp
          refine hJ.out _ _ hS4 (fun _ => ?_)
          clear hJ J
          try simp only [Act.put, List.setIfInBounds_toArray, List.set_cons_zero, List.set_cons_succ]
          refine wpAnyH_done (by kernel_rfl) ?_ _
          refine NoPanic.normal ?_
          clear hSx hS4 hcx hcm2
          have hcy4 := CycR.below (w := wr.drew) hcy b4
          have hO4 := OwnB.below (w := wr.drew) hO b4 (by show w.heap.size < wr.heap.size; omega)
          have hB4 := Below.next hB.drew b4
          have hs4 : w.heap.size + 1 ≤ w4.heap.size := by have h := b4.size; simp at h; omega
          have hrow4 : RowIs w4 (w.heap.size + 1) y1 y := (row_of hown4 HYL.out (by omega)).base (by simpa using hs)
          obtain ⟨ya, yc, hye⟩ : ∃ a c, y1 = .slice a n c := by obtain ⟨a, c, e, _⟩ := hsl4; exact ⟨a, c, by rw [e, List.length_map, HYL.out]⟩
          subst hye
          have hcq := hO4.cell q (by omega)
          rw [Hbq.out] at hcq
          have hfq := hO4.frozen q
          have D2 := D _ w4 hsl4
          clear hcy hO hB hs hown4 hsl4 D b4 C
          cases bq with
          | true =>
            have HIN : Hid (addL L' y = L') := by unfold addL; exact if_pos (HYM.out.1 (by trivial))
            go_wp2_with (first
              | (go_at_call 40; refine D2.mono ?_; rintro e w5 ⟨rfl, hw⟩; replace hw := hw.symm; subst hw))
            go_roundw
            case rel => exact ⟨j + 1, L', by go_num, by omega, by have := Hr.out; omega, by have := HNS.out; rwa [HIN.out] at this, by have := HNX.out; rwa [HIN.out] at this, hcy4, hO4, hs4, hB4⟩
            case measure => simp [intOf]; omega
          | false =>
            have HNI : Hid (y ∉ L') := fun h => absurd (HYM.out.2 h) Bool.false_ne_true
            have HIN : Hid (addL L' y = L' ++ [y]) := by unfold addL; exact if_neg HNI.out
            have hO5 := (hO4.set q).congr (HYA.out HNI.out)
            have hcy5 : CycR (w4.setCell ⟨w.heap.size, q, none⟩ (.bool true)) (w.heap.size + 1) (.slice (some ⟨lb, lo, none⟩) r lc) L' := hcy4.kp (Kp.set _ _ _ _) (by omega)
            have hrow5 : RowIs (w4.setCell ⟨w.heap.size, q, none⟩ (.bool true)) (w.heap.size + 1) (.slice ya n yc) y := hrow4.kp (Kp.set _ _ _ _) (by omega)
            have hB5 : Below w.heap.size w (w4.setCell ⟨w.heap.size, q, none⟩ (.bool true)) := hB4.setCell (p := ⟨w.heap.size, q, none⟩) (Nat.le_refl _) _
            obtain ⟨vals, hv1, hv2⟩ := hcy5
            rw [Hr.out] at hv1
            have HV2 : Hid (∀ (i : Nat) (u : Value) (l : List Nat), vals[i]? = some u → L'[i]? = some l → RowIs (w4.setCell ⟨w.heap.size, q, none⟩ (.bool true)) (w.heap.size + 1) u l) := hv2
            have HR5 : Hid (RowIs (w4.setCell ⟨w.heap.size, q, none⟩ (.bool true)) (w.heap.size + 1) (.slice ya n yc) y) := hrow5
            have HO5 : Hid (OwnB (w4.setCell ⟨w.heap.size, q, none⟩ (.bool true)) w.heap.size z (inB n (addL L' y))) := hO5
            have hs5 : w.heap.size + 1 ≤ (w4.setCell ⟨w.heap.size, q, none⟩ (.bool true)).heap.size := by simpa using hs4
            clear hv2 hrow5 hrow4 hcy4 hO4 hO5
            go_wp2_with (first
              | (go_at_call 40; refine D2.mono ?_; rintro e w5 ⟨rfl, hw⟩; replace hw := hw.symm; subst hw)
              | (at_builtin; go_loud (refine wpList_append_lies _ rfl _ _ 28 rfl (w.heap.size + 1) 40 i23 (.slice none 0 0) 1 24 und22' HI2.out.1 HI2.out.2.1 HI2.out.2.2.1 HI2.out.2.2.2 rfl (by decide) _ r _ rfl (hv1.alloc _) ⟨w4.heap.size, 0, none⟩ 1 1 [.slice ya n yc] rfl rfl ?c1 ?c2 (by omega) ?c3 ?c4 ?c5 (w4.heap.size + 1) (by simp) ?_)))
            case c1 =>
              have h := cell_one_new (w4.setCell ⟨w.heap.size, q, none⟩ (.bool true)) (.slice ya n yc) 40
              rw [show (w4.setCell ⟨w.heap.size, q, none⟩ (.bool true)).heap.size = w4.heap.size by simp] at h
              exact h
            case c2 => intro u hu; simp at hu; subst hu; rfl
            case c3 => unfold maxLen; omega
            case c4 => omega
            case c5 => simp; omega
            · intro g6 cap6 w6 hown6 hgrow6 _ hlt6
              have hb6 : Below w.heap.size w w6 := (hB5.alloc hB5.size _).grown hgrow6 (by simp; omega) (fun g hg => by have := (hv1.lt g hg).1; omega)
              have hal : ∀ {u l}, RowIs (w4.setCell ⟨w.heap.size, q, none⟩ (.bool true)) (w.heap.size + 1) u l → RowIs ((w4.setCell ⟨w.heap.size, q, none⟩ (.bool true)).alloc (.cells #[.slice ya n yc] 40)) (w.heap.size + 1) u l := fun h => h.kp (M := 0) (Kp.below (balloc _ _)) (by omega)
              have hcy6 : CycR w6 (w.heap.size + 1) (.slice (some ⟨g6, 0, none⟩) (r + 1) cap6) (L' ++ [y]) := CycR.more (wa := (w4.setCell ⟨w.heap.size, q, none⟩ (.bool true)).alloc (.cells #[.slice ya n yc] 40)) (vals := vals) (by rw [Hr.out]; exact hv1.alloc _) (fun i u l h1 h2 => hal (HV2.out i u l h1 h2)) (hal HR5.out) (by rw [Hr.out]; exact hown6) hgrow6
              have hO6 : OwnB w6 w.heap.size z (inB n (addL L' y)) := HO5.out.block ((hgrow6.block _ (by simp; omega) (fun e => by have := (hv1.lt _ e.symm).1; omega)).trans ((balloc _ _).block _ (by omega)))
              have hs6 : w.heap.size + 1 ≤ w6.heap.size := by have := hgrow6.size; simp at this; omega
              clear hown6 hgrow6 hv1 HV2 HR5 HO5
              go_wp2
              go_roundw
              case rel => exact ⟨j + 1, addL L' y, by go_num, by omega, by have := addL_len L' y; have := Hr.out; omega, HNS, HNX, by rw [HIN.out]; exact hcy6, hO6, hs6, hb6⟩
              case measure => simp [intOf]; omega
        · obtain rfl : j = k := by omega
          have hkd : decide ((j : Int) < (j : Int)) = false := by simp
          have ht5 : t < 5040 := by omega
          go_wp2
          go_roundw
          case rel =>
            refine ⟨t + 1, L', by go_num, by have := Hr.out; omega, HS, ?_, hcy, hO, hs, hB⟩
            have h := HC.out
            rw [← Hk.out] at h
            exact h.turn
          case measure => simp [intOf]; omega
    · obtain rfl : t = r := by omega
      have hkd : decide ((t : Int) < (t : Int)) = false := by simp
      go_wp2
      go_ret
      refine ⟨⟨w.heap.size, L, rfl, Nat.le_refl _, hO, fun a => ?_⟩, hB⟩
      have h := HC.out
      rw [← Hr.out] at h
      exact Clo.done HS.out h a

end Go.Proofs.Ytmaplmgecohjbaa

namespace Go.Proofs.Ytmaplmgecohjbaa
open Go.RowKit

/-- The marked orders below `t`. -/
def listF (n : Nat) (F : Nat → Bool) (t : Nat) : List (List Nat) := ((List.range t).filter F).map (unr n)
theorem listF_yes {n : Nat} {F : Nat → Bool} {t : Nat} (h : F t = true) : listF n F (t + 1) = listF n F t ++ [unr n t] := by simp [listF, List.range_succ, h]
theorem listF_no {n : Nat} {F : Nat → Bool} {t : Nat} (h : F t = false) : listF n F (t + 1) = listF n F t := by simp [listF, List.range_succ, h]
theorem listF_len (n : Nat) (F : Nat → Bool) (t : Nat) : (listF n F t).length ≤ t := by
  unfold listF
  rw [List.length_map]
  exact Nat.le_trans (List.length_filter_le _ _) (by simp)
theorem listF_els {n : Nat} {L : List (List Nat)} {G : List Nat → Prop} (h : ∀ a, a ∈ L ↔ G a) : listF n (inB n L) (fac n) = els n G := by
  unfold listF els
  rw [List.filter_map]
  congr 1
  refine List.filter_congr fun k _ => ?_
  unfold inB
  simp [h]

set_option maxRecDepth 100000 in
set_option maxHeartbeats 4000000 in
theorem ListOf_any (n g : Nat) (F : Nat → Bool) (w : World) (hn : n ≤ 7) (h1 : 1 ≤ n) (hO : OwnB w g (fac n) F) :
    Calls Try.prog 17 #[.int .i64 (n : Int), .slice (some ⟨g, 0, none⟩) (fac n) (fac n)] w fun e w' => (∃ v, e = .returned v ∧ CycR w' w.heap.size v (listF n F (fac n))) ∧ Below w.heap.size w w' := by
  obtain ⟨i23, hi, hz0, hz1, hz2⟩ := info23
  have HI2 : Hid (Try.prog.info? 40 = some i23 ∧ i23.zero = some (.slice none 0 0) ∧ i23.size = 1 ∧ i23.bytes = 24) := ⟨hi, hz0, hz1, hz2⟩
  clear hi hz0 hz1 hz2
  have hfb : fac n ≤ 5040 := by have h := fac_mono hn; have h3 : fac 7 = 5040 := (by decide); omega
  have C := fun k W (h : k < fac n) => PermOfRank_own n k W (by omega) h
  obtain ⟨z, Hz⟩ : ∃ z, Hid (fac n = z) := ⟨_, rfl⟩
  rw [Hz.out] at C hfb hO ⊢
  have hgl := hO.lt
  go_enter Try.func17, Try.ntmps17
  go_wp2
  go_loopw [5, 6] (fun lv i wr => ∃ (t : Nat), i = .int .i64 t ∧ t ≤ z ∧ CycR wr w.heap.size lv (listF n F t) ∧ Below w.heap.size w wr) (fun _ i _ => (z - intOf i).toNat)
  case atStart => exact ⟨0, rfl, by omega, CycR.nil _ _, Below.refl _ _⟩
  case round =>
    obtain ⟨t, rfl, ht, hcy, hB⟩ := hrel
    have hlen := listF_len n F t
    obtain ⟨r, Hr⟩ : ∃ r, Hid ((listF n F t).length = r) := ⟨_, rfl⟩
    obtain ⟨la, lc, hle⟩ := hcy.form
    rw [Hr.out] at hle hlen
    subst hle
    by_cases hlt : t < z
    · have hti : (t : Int) < z := by omega
      have ht0 : (0 : Int) ≤ (t : Int) := by omega
      have hdec : decide ((t : Int) < z) = true := by simp; omega
      have hO' : OwnB wr g z F := hO.block (hB.block g hgl)
      have hct := hO'.cell t hlt
      have hft := hO'.frozen t
      have hsz := hB.size
      have D := C t wr hlt
      clear hO'
      cases hF : F t with
      | true =>
        rw [hF] at hct
        have HL : Hid (listF n F (t + 1) = listF n F t ++ [unr n t]) := listF_yes hF
        obtain ⟨L, HLL⟩ : ∃ L, Hid (listF n F t = L) := ⟨_, rfl⟩
        rw [HLL.out] at hcy HL Hr
        have hul : (unr n t).length = n := unrL_len _ _ _
        change Calls _ _ _ _ fun e w' => ∃ x, e = _ ∧ w'.ownsRow wr.heap.size 3 1 x n (vl (unr n t)) ∧ Below wr.heap.size wr w' at D
        obtain ⟨y, Hy⟩ : ∃ y, Hid (unr n t = y) := ⟨_, rfl⟩
        rw [Hy.out] at HL hul D
        have HYL : Hid (y.length = n) := hul
        obtain ⟨vals, hv1, hv2⟩ := hcy
        rw [Hr.out] at hv1
        have HV2 : Hid (∀ (i : Nat) (u : Value) (l : List Nat), vals[i]? = some u → L[i]? = some l → RowIs wr w.heap.size u l) := hv2
        clear hv2 hul
        go_wp2_with (first
          | (go_at_call 41; refine D.mono ?_; rintro e w4 ⟨x, rfl, hown4, b4⟩; have hrow4 : RowIs w4 w.heap.size x y := (row_of hown4 HYL.out (by omega)).base hsz; obtain ⟨ya, yc, hye⟩ : ∃ a c, x = .slice a n c := (by obtain ⟨g, c, e, _⟩ := hrow4; exact ⟨_, c, by rw [e, HYL.out]⟩); subst hye; replace hv1 := orow_below hv1 b4; have HV3 : Hid (∀ (i : Nat) (u : Value) (l : List Nat), vals[i]? = some u → L[i]? = some l → RowIs w4 w.heap.size u l) := (fun i u l h1 h2 => (HV2.out i u l h1 h2).below b4); have HR4 : Hid (RowIs w4 w.heap.size (.slice ya n yc) y) := hrow4; have hB4 := Below.next hB b4; clear hown4 hrow4 b4 D)
          | (at_builtin; refine wpList_append_lies _ rfl _ _ 28 rfl w.heap.size 40 i23 (.slice none 0 0) 1 24 und22' HI2.out.1 HI2.out.2.1 HI2.out.2.2.1 HI2.out.2.2.2 rfl (by decide) _ r _ rfl (hv1.alloc _) ⟨w4.heap.size, 0, none⟩ 1 1 [.slice ya n yc] rfl rfl ?c1 ?c2 (by omega) ?c3 ?c4 ?c5 (w4.heap.size + 1) (by simp) ?_))
        case c1 => exact cell_one_new w4 (.slice ya n yc) 40
        case c2 => intro u hu; simp at hu; subst hu; rfl
        case c3 => unfold maxLen; omega
        case c4 => omega
        case c5 => have := hB4.size; simp; omega
        intro g6 cap6 w6 hown6 hgrow6 _ hlt6
        have hb6 : Below w.heap.size w w6 := (hB4.alloc hB4.size _).grown hgrow6 (by have := hB4.size; simp; omega) (fun g hg => by have := (hv1.lt g hg).1; omega)
        have hal : ∀ {u l}, RowIs w4 w.heap.size u l → RowIs (w4.alloc (.cells #[.slice ya n yc] 40)) w.heap.size u l := fun h => h.below (balloc _ _)
        have hcy6 : CycR w6 w.heap.size (.slice (some ⟨g6, 0, none⟩) (r + 1) cap6) (L ++ [y]) := CycR.more (wa := w4.alloc (.cells #[.slice ya n yc] 40)) (vals := vals) (by rw [Hr.out]; exact hv1.alloc _) (fun i u l h1 h2 => hal (HV3.out i u l h1 h2)) (hal HR4.out) (by rw [Hr.out]; exact hown6) hgrow6
        clear hown6 hgrow6 hv1 HV2 HV3 HR4
        go_wp2
        go_roundw
        case rel => exact ⟨t + 1, by go_num, by omega, by rw [HL.out]; exact hcy6, hb6⟩
        case measure => simp [intOf]; omega
      | false =>
        rw [hF] at hct
        have HL : Hid (listF n F (t + 1) = listF n F t) := listF_no hF
        go_wp2
        go_roundw
        case rel => exact ⟨t + 1, by go_num, by omega, by rw [HL.out]; exact hcy, hB⟩
        case measure => simp [intOf]; omega
    · obtain rfl : t = z := by omega
      have hkd : decide ((t : Int) < (t : Int)) = false := by simp
      go_wp2
      go_ret
      exact ⟨⟨_, rfl, hcy⟩, hB⟩

end Go.Proofs.Ytmaplmgecohjbaa
