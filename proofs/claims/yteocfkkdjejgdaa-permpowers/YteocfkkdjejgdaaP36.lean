/- The walks of power and Power. -/
import Derived.Test.YteocfkkdjejgdaaP30
import Derived.Test.YteocfkkdjejgdaaP9
namespace Go.Proofs.Yteocfkkdjejgdaa
open Go.RowKit

theorem tmod_emod (x p : Int) : (x.tmod p + p) % p = x % p := by
  rw [Int.add_emod_right, Int.tmod_eq_emod]
  split
  · simp
  · rw [Int.sub_emod, Int.emod_emod, show ((p.natAbs : Int)) % p = 0 from Int.emod_eq_zero_of_dvd (Int.dvd_natAbs.2 (Int.dvd_refl _)), Int.sub_zero, Int.emod_emod]
theorem tmod_bd (x p : Int) (hp : 0 < p) : -p < x.tmod p ∧ x.tmod p < p := by
  constructor
  · have h1 := Int.emod_nonneg x (show p ≠ 0 by omega); have h2 := Int.emod_lt_of_pos x hp; rw [Int.tmod_eq_emod]; split <;> omega
  · exact Int.tmod_lt_of_pos x hp
/-- N times, N being any number. -/
noncomputable def powF (f : Nat → Nat) (N : Int) (x : Nat) : Nat := itr f (N % (per f x : Int)).toNat x
theorem Pm.pow_pm {n : Nat} {f : Nat → Nat} (P : Pm n f) (N : Int) : Pm n (powF f N) := by
  refine ⟨fun x hx => P.itr_lt hx _, fun x y hx hy e => ?_⟩
  have e' : itr f (N % (Go.Proofs.Yteocfkkdjejgdaa.per f x : Int)).toNat x = itr f (N % (Go.Proofs.Yteocfkkdjejgdaa.per f y : Int)).toNat y := e
  have hp : Go.Proofs.Yteocfkkdjejgdaa.per f x = Go.Proofs.Yteocfkkdjejgdaa.per f y := by
    have h1 := P.per_itr hx (N % (Go.Proofs.Yteocfkkdjejgdaa.per f x : Int)).toNat
    have h2 := P.per_itr hy (N % (Go.Proofs.Yteocfkkdjejgdaa.per f y : Int)).toNat
    rw [e'] at h1
    omega
  rw [hp] at e'
  exact P.itr_inj hx hy e'
/-- As many steps as what a multiple of all lengths leaves. -/
theorem Pm.pow_ord {n : Nat} {f : Nat → Nat} (P : Pm n f) {o : Nat} (ho : OrdIs n f o) (N : Int) {x : Nat} (hx : x < n) : powF f N x = itr f (N % (o : Int)).toNat x := by
  have hd : Go.Proofs.Yteocfkkdjejgdaa.per f x ∣ o := (P.dvd hx o).1 ((ho.2 o).1 (Nat.dvd_refl _) x hx)
  have hp := (P.per hx).1
  have h1 := ho.1
  unfold powF
  rw [P.itr_mod hx (N % (o : Int)).toNat]
  congr 1
  have h2 : 0 ≤ N % (o : Int) := Int.emod_nonneg _ (by omega)
  have h3 : ((N % (o : Int)).toNat : Int) = N % (o : Int) := Int.toNat_of_nonneg h2
  have h4 : (((N % (o : Int)).toNat % Go.Proofs.Yteocfkkdjejgdaa.per f x : Nat) : Int) = N % (Go.Proofs.Yteocfkkdjejgdaa.per f x : Int) := by
    rw [Int.natCast_emod, h3]
    exact Int.emod_emod_of_dvd N (Int.natCast_dvd_natCast.2 hd)
  omega

theorem CycR.at' {w : World} {base : Nat} {a : Option Addr} {c n : Nat} {ls : List (List Nat)} (h : CycR w base (.slice a n c) ls) {i : Nat} {l : List Nat} (hl : ls[i]? = some l) : ∃ b off u, a = some ⟨b, off, none⟩ ∧ w.cell? ⟨b, off + i, none⟩ = some u ∧ RowIs w base u l := by
  obtain ⟨vals, h1, h2⟩ := h
  obtain ⟨h3, ⟨e, h4⟩ | ⟨g, cap, cur, e, h6, h7, h8, h9, h10, ht⟩⟩ := h1
  · rw [List.length_eq_zero_iff.1 h4] at hl; simp at hl
  · cases e
    have hi : i < ls.length := by
      rcases Nat.lt_or_ge i ls.length with h | h
      · exact h
      · rw [List.getElem?_eq_none h] at hl; simp at hl
    have e : (cur.toList.take (ls.length * 1))[i]? = vals[i]? := by rw [ht]
    rw [List.getElem?_take, if_pos (by omega)] at e
    obtain ⟨u, hu⟩ : ∃ u, vals[i]? = some u := ⟨vals[i]'(by omega), by simp⟩
    refine ⟨g, 0, u, rfl, ?_, h2 i u l hu hl⟩
    rw [cell_of_row w g _ _ _ _ h7, Nat.zero_add, ← Array.getElem?_toList, e, hu]
theorem take_flat {ls : List (List Nat)} {k : Nat} {l : List Nat} (h : ls[k]? = some l) : (ls.take (k + 1)).flatten = (ls.take k).flatten ++ l := by
  rw [List.take_add_one, h]; simp
theorem mem_take_succ {l : List Nat} {i x : Nat} (hi : i < l.length) : x ∈ l.take (i + 1) ↔ x ∈ l.take i ∨ x = l.getD i 0 := by
  have e : l.take (i + 1) = l.take i ++ [l.getD i 0] := by rw [List.take_add_one, List.getElem?_eq_getElem hi]; simp [hi]
  rw [e, List.mem_append, List.mem_singleton]

set_option maxRecDepth 100000 in
set_option maxHeartbeats 2000000 in
theorem power_any (n : Nat) (f : Nat → Nat) (N : Int) (v : Value) (w : World) (hn : n ≤ 12) (hv : Sl w v (pl n f)) (P : Pm n f) :
    Calls Try.prog 36 #[v, .int .i64 N] w fun e w' => ∃ x, e = .returned x ∧ Sl w' x (pl n (powF f N)) ∧ Below w.heap.size w w' := by
  obtain ⟨i3, hi, hz0, hz1, hz2⟩ := info3
  have C := fun W (h : Below w.heap.size w W) => cycles_any n f v W hn (hv.below h) P
  obtain ⟨ls, Hls⟩ : ∃ ls, Hid (cycs n f n = ls) := ⟨_, rfl⟩
  obtain ⟨r, Hr⟩ : ∃ r, Hid (ls.length = r) := ⟨_, rfl⟩
  have hr12 : r ≤ 12 := by rw [← Hr.out, ← Hls.out]; have := cycs_len_le n f n; omega
  rw [Hls.out] at C
  have HP : Hid (Pm n f) := P
  obtain ⟨a, ca, hve⟩ : ∃ a c, v = .slice a n c := by obtain ⟨a, c, e, _⟩ := hv; rw [pl_len] at e; exact ⟨a, c, e⟩
  subst hve
  clear hv P
  go_enter Try.func36, Try.ntmps36
  go_wp2_with (first
    | (at_make; refine wpList_make_full _ rfl _ _ 22 rfl w.heap.size 3 i3 (.int .i64 0) 1 und22 hi hz0 hz1 .i64 .i64 (n : Int) (n : Int) n rfl rfl rfl rfl ?c1 ?c2 (Nat.le_refl _) ?_))
  case c1 => rw [hz2]; omega
  case c2 => unfold maxLen; omega
  intro w1 how1 hgr1
  have hO1 := own_made' how1
  have hb1 : Below w.heap.size w w1 := ⟨hgr1.os, hgr1.tape, hgr1.output, hgr1.size, fun k hk => hgr1.block k hk (by simp)⟩
  have hl1 := hO1.lt
  clear how1 hgr1
  go_wp2_with (first
    | (go_at_call 39; refine (C _ hb1).mono ?_; rintro e w2 ⟨x, rfl, hss, hb2⟩; obtain ⟨xa, xc, rfl⟩ := hss.form; rw [Hr.out] at hss ⊢))
  have hO2 := hO1.below hb2
  have hB2 := Below.next hb1 hb2
  clear C hO1 hb1 hb2
  go_loopw [18] (fun i wr => ∃ (k : Nat) (h : Nat → Int), i = .int .i64 k ∧ k ≤ r ∧ Own wr w.heap.size n h ∧ Hid (∀ x, x ∈ (ls.take k).flatten → h x = (powF f N x : Int)) ∧ CycR wr (w1.heap.size + 1) (.slice xa r xc) ls ∧ Below w.heap.size w wr) (fun i _ => (r - intOf i).toNat)
  case atStart => exact ⟨0, _, rfl, by omega, hO2, (fun x hx => by simp at hx : ∀ x, x ∈ (ls.take 0).flatten → _), hss, hB2⟩
  case round =>
    clear hO2 hB2 hss
    obtain ⟨k, h, rfl, hk, hO, HH, hss, hB⟩ := hrel
    by_cases hlt : k < r
    · have hki : (k : Int) < r := by omega
      have hdec : decide ((k : Int) < r) = true := by simp; omega
      obtain ⟨l, hl⟩ : ∃ l, ls[k]? = some l := ⟨ls[k]'(by have := Hr.out; omega), by simp⟩
      have hlm : l ∈ cycs n f n := by rw [Hls.out]; exact List.mem_of_getElem? hl
      obtain ⟨i0, hi0, hle⟩ := List.mem_map.1 hlm
      have hi0 := (mem_leads.1 hi0).1
      obtain ⟨p, Hp⟩ : ∃ p, Hid (per f i0 = p) := ⟨_, rfl⟩
      have hper := (HP.out.per hi0).1
      rw [Hp.out] at hper
      obtain ⟨hp1, hp2, hp3⟩ := hper
      have HR : Hid (itr f p i0 = i0) := hp3
      have hll : l.length = p := by rw [← hle, cycL_length, Hp.out]
      have HA : Hid (∀ j, j < p → l.getD j 0 = itr f j i0) := fun j hj => by rw [← hle]; simp [cycL, Hp.out, hj]
      have HF : Hid ((ls.take (k + 1)).flatten = (ls.take k).flatten ++ l) := take_flat hl
      obtain ⟨b, off, u, rfl, hcu, hrow⟩ := hss.at' hl
      obtain ⟨g, cap, rfl, hg, hOg⟩ := hrow
      rw [hll] at hcu hOg
      have HLL : Hid (l.length = p) := hll
      clear hl hlm hle hp3 hll
      have htb := tmod_bd N p (by omega)
      obtain ⟨htb1, htb2⟩ := htb
      have hpz : ((p : Int) == 0) = false := by simp; omega
      obtain ⟨t0, Ht0⟩ : ∃ t0, Hid (N.tmod (p : Int) = t0) := ⟨_, rfl⟩
      obtain ⟨t, Ht⟩ : ∃ t : Nat, Hid (N % (p : Int) = (t : Int)) := ⟨(N % (p : Int)).toNat, (Int.toNat_of_nonneg (Int.emod_nonneg _ (by omega))).symm⟩
      have htp : t < p := by have := Int.emod_lt_of_pos N (show (0 : Int) < p by omega); rw [Ht.out] at this; omega
      have htm := Ht0.out
      have ht1 : (t0 + (p : Int)) % (p : Int) = (t : Int) := by rw [← Ht0.out, tmod_emod, Ht.out]
      rw [Ht0.out] at htb1 htb2
      have ht2 : 0 ≤ t0 + (p : Int) := by omega
      go_wp2
      go_loopw [33] (fun i wr => ∃ (q : Nat) (h' : Nat → Int), i = .int .i64 q ∧ q ≤ p ∧ Own wr w.heap.size n h' ∧ Hid (∀ x, x ∈ (ls.take k).flatten ∨ x ∈ l.take q → h' x = (powF f N x : Int)) ∧ Own wr g p (fun j => (l.getD j 0 : Int)) ∧ CycR wr (w1.heap.size + 1) (.slice (some ⟨b, off, none⟩) r xc) ls ∧ Below w.heap.size w wr) (fun i _ => (p - intOf i).toNat)
      case atStart => exact ⟨0, h, rfl, by omega, hO, (fun x hx => HH.out x (hx.elim id (fun h => by simp at h)) : ∀ x, _ → _), hOg, hss, hB⟩
      case round =>
        clear hO hOg hss hB hcu
        obtain ⟨q, h', rfl, hq, hO, HH', hOg, hss, hB⟩ := hrel
        by_cases hqp : q < p
        · have hqi : (q : Int) < p := by omega
          have hqd : decide ((q : Int) < p) = true := by simp; omega
          obtain ⟨y, Hy⟩ : ∃ y, Hid (itr f q i0 = y) := ⟨_, rfl⟩
          have hyn : y < n := by rw [← Hy.out]; exact HP.out.itr_lt hi0 q
          have hyi : (y : Int) < n := by omega
          obtain ⟨s, Hs⟩ : ∃ s, Hid ((q + t) % p = s) := ⟨_, rfl⟩
          have hsp : s < p := by rw [← Hs.out]; exact Nat.mod_lt _ (by omega)
          have hse : ((q : Int) + (t : Int)) % (p : Int) = (s : Int) := by rw [← Hs.out, Int.natCast_emod, Int.natCast_add]
          obtain ⟨z, Hz⟩ : ∃ z, Hid (itr f s i0 = z) := ⟨_, rfl⟩
          have hcq := hOg.cell q hqp
          have hcs := hOg.cell s hsp
          rw [HA.out q hqp, Hy.out] at hcq
          rw [HA.out s hsp, Hz.out] at hcs
          have hsi : (s : Int) < p := by omega
          have hcy := hO.cell y hyn
          have hfy := hO.frozen y
          have HPW : Hid (powF f N y = z) := by
            show itr f (N % (per f y : Int)).toNat y = z
            have e1 : per f y = p := by rw [← Hy.out, HP.out.per_itr hi0, Hp.out]
            rw [e1, Ht.out, Int.toNat_natCast, ← Hy.out, ← itr_add, ← Hz.out, ← Hs.out, ← itr_mod_of HR.out, Nat.add_comm]
          go_wp2
          go_roundw
          case rel =>
            refine ⟨q + 1, upd h' y z, by go_num, by omega, hO.set y z, (fun x hx => ?_ : ∀ x, _ → _), hOg.other _ _ (by simp; omega), hss.kp (Kp.set _ _ _ _) (by omega), hB.setCell (p := ⟨w.heap.size, y, none⟩) (Nat.le_refl _) _⟩
            unfold upd
            by_cases e : x = y
            · subst e; rw [if_pos rfl, HPW.out]
            · rw [if_neg e]
              refine HH'.out x ?_
              rcases hx with hx | hx
              · exact .inl hx
              · rw [mem_take_succ (by rw [HLL.out]; exact hqp)] at hx
                rcases hx with hx | hx
                · exact .inr hx
                · rw [HA.out q hqp, Hy.out] at hx; exact absurd hx e
          case measure => simp [intOf]; omega
        · obtain rfl : q = p := by omega
          have hqd : decide ((q : Int) < (q : Int)) = false := by simp
          go_wp2
          go_roundw
          case rel =>
            refine ⟨k + 1, h', by go_num, by omega, hO, (fun x hx => ?_ : ∀ x, x ∈ (ls.take (k + 1)).flatten → _), hss, hB⟩
            rw [HF.out, List.mem_append] at hx
            refine HH'.out x ?_
            rw [List.take_of_length_le (l := l) (by rw [HLL.out]; exact Nat.le_refl _)]
            exact hx
          case measure => simp [intOf]; omega
    · obtain rfl : k = r := by omega
      have hkd : decide ((k : Int) < (k : Int)) = false := by simp
      go_wp2
      go_ret
      refine ⟨_, rfl, hO.pl _ (fun j hj => HH.out j ?_), hB⟩
      rw [List.take_of_length_le (by rw [Hr.out]; exact Nat.le_refl _), ← Hls.out]
      exact HP.out.flat.mem_iff.2 (List.mem_range.2 hj)

theorem Power_bad (l : List Int) (v : Value) (N : Int) (w : World) (hl : Sl w v l) (hll : l.length ≤ maxLen) (z : Int) (hz : pF l = z) (h0 : z ≠ 0) :
    Calls Try.prog 22 #[v, .int .i64 N] w fun e w' => e = .returned (.tuple #[.slice none 0 0, .int .i64 z]) ∧ Below w.heap.size w w' := by
  have C := Check_any l v w hl hll
  rw [hz] at C
  have hd : (z != 0) = true := by simpa using h0
  clear hz h0
  obtain ⟨a, cap, rfl, _⟩ := hl
  go_enter Try.func22, Try.ntmps22
  go_wp2_with (first
    | (go_at_call 8; refine C.mono ?_; rintro e w1 ⟨rfl, hb⟩))
  exact bodyPost_ret (v := .tuple #[.slice none 0 0, .int .i64 z]) (by simp [results, Try.results22, go_sem]) rfl ⟨rfl, hb⟩
theorem Power_far (n : Nat) (f : Nat → Nat) (N : Int) (v : Value) (w : World) (hn : n ≤ 12) (hv : Sl w v (pl n f)) (P : Pm n f) (hN : N < -4611686018427387904 ∨ 4611686018427387904 < N) :
    Calls Try.prog 22 #[v, .int .i64 N] w fun e w' => e = .returned (.tuple #[.slice none 0 0, .int .i64 1]) ∧ Below w.heap.size w w' := by
  have C := Check_any _ v w hv (by rw [pl_len]; unfold maxLen; omega)
  rw [pF_pl P hn] at C
  obtain ⟨a, ca, hve⟩ : ∃ a c, v = .slice a n c := by obtain ⟨a, c, e, _⟩ := hv; rw [pl_len] at e; exact ⟨a, c, e⟩
  subst hve
  clear hv P
  by_cases h1 : N < -4611686018427387904
  · have hd : decide (N < -4611686018427387904) = true := by simpa using h1
    go_enter Try.func22, Try.ntmps22
    go_wp2_with (first
      | (go_at_call 8; refine C.mono ?_; rintro e w1 ⟨rfl, hb⟩))
    exact bodyPost_ret (v := .tuple #[.slice none 0 0, .int .i64 1]) (by simp [results, Try.results22, go_sem]) rfl ⟨rfl, hb⟩
  · have hd : decide (N < -4611686018427387904) = false := by simpa using h1
    have hd2 : decide (4611686018427387904 < N) = true := by simp; omega
    clear hN
    go_enter Try.func22, Try.ntmps22
    go_wp2_with (first
      | (go_at_call 8; refine C.mono ?_; rintro e w1 ⟨rfl, hb⟩))
    exact bodyPost_ret (v := .tuple #[.slice none 0 0, .int .i64 1]) (by simp [results, Try.results22, go_sem]) rfl ⟨rfl, hb⟩
theorem Power_ok (n : Nat) (f : Nat → Nat) (N : Int) (v : Value) (w : World) (hn : n ≤ 12) (hv : Sl w v (pl n f)) (P : Pm n f) (h1 : -4611686018427387904 ≤ N) (h2 : N ≤ 4611686018427387904) :
    Calls Try.prog 22 #[v, .int .i64 N] w fun e w' => ∃ x, e = .returned (.tuple #[x, .int .i64 0]) ∧ Sl w' x (pl n (powF f N)) ∧ Below w.heap.size w w' := by
  have C := Check_any _ v w hv (by rw [pl_len]; unfold maxLen; omega)
  rw [pF_pl P hn] at C
  have C2 := fun W (h : Below w.heap.size w W) => power_any n f N v W hn (hv.below h) P
  obtain ⟨a, ca, hve⟩ : ∃ a c, v = .slice a n c := by obtain ⟨a, c, e, _⟩ := hv; rw [pl_len] at e; exact ⟨a, c, e⟩
  subst hve
  clear hv P
  have hd : decide (N < -4611686018427387904) = false := by simp; omega
  have hd2 : decide (4611686018427387904 < N) = false := by simp; omega
  go_enter Try.func22, Try.ntmps22
  go_wp2_with (first
    | (go_at_call 8; refine C.mono ?_; rintro e w1 ⟨rfl, hb1⟩)
    | (go_at_call 36; refine (C2 _ hb1).mono ?_; rintro e w2 ⟨x, rfl, hx, hb2⟩))
  exact bodyPost_ret (v := .tuple #[x, .int .i64 0]) (by simp [results, Try.results22, go_sem]) rfl ⟨x, rfl, hx, Below.next hb1 hb2⟩

end Go.Proofs.Yteocfkkdjejgdaa
