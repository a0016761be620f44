/- The law QuasiGroup, walked. -/
import Derived.Test.YtncnaaohihmjnaaQF
import Derived.Test.YtncnaaohihmjnaaQ10
namespace Go.Proofs.Ytncnaaohihmjnaa
open Go.RowKit

theorem countP_succ (p : Nat → Bool) (x : Nat) : (List.range (x + 1)).countP p = (List.range x).countP p + if p x = true then 1 else 0 := by
  rw [List.range_succ, List.countP_append, List.countP_singleton]
set_option maxRecDepth 100000 in
set_option maxHeartbeats 16000000 in
theorem QuasiGroup_main (n : Nat) (L : List Int) (v : Value) (w : World) (hv : Sl w v L) (G : GoodS n L) (hA : assB n (sq n L) = true) :
    Calls Try.prog 6 #[.agg #[.int .i64 (n : Int), v]] w fun e w' => e = .returned (.bool true) ∧ Below w.heap.size w w' := by
  have h8 := G.le
  have h1 := G.pos
  obtain ⟨u, hu, hU⟩ := grp_unit G.lat G.pos hA
  have ho : fstN n (unitB n (sq n L)) = some u := fst_at hu hU fun y hy => by
    cases e : unitB n (sq n L) y with
    | false => rfl
    | true => have := unit_one (by omega) hu e hU; omega
  obtain ⟨w0, Hw0⟩ : ∃ w0, Hid (w0 = w.alloc (.cells #[.int .i64 (n : Int), v] 24)) := ⟨_, rfl⟩
  have HCL : Hid (∀ W, Below w0.heap.size w0 W → W.cell? ⟨w.heap.size, 0, none⟩ = some (.int .i64 (n : Int)) ∧ W.cell? ⟨w.heap.size, 1, none⟩ = some v) := by rw [Hw0.out]; exact fun W b => ⟨(one_box n v w W b).1, (one_box n v w W b).2.1⟩
  have HB0 : Hid (Below w.heap.size w w0) := by rw [Hw0.out]; exact balloc _ _
  have C0 := quasiFact_any (w.alloc (.cells #[.int .i64 (n : Int), v] 24))
  have C1 := fun W (b : Below w.heap.size w W) => Associates_ok n L v W (hv.below b) G
  rw [hA] at C1
  have C2 := fun W (b : Below w.heap.size w W) => Unit_ok n L v W (hv.below b) G u ho
  have HLR : Hid (∀ x, x < n → ∃ l, (∀ W, Below w0.heap.size w0 W → Calls Try.prog 19 #[.agg #[.int .i64 (n : Int), v], .int .i64 (x : Int), .int .i64 (u : Int)] W fun e w' => e = .returned (.tuple #[.int .i64 (l : Int), .int .i64 0]) ∧ Below W.heap.size W w') ∧ (∀ W, Below w0.heap.size w0 W → Calls Try.prog 20 #[.agg #[.int .i64 (n : Int), v], .int .i64 (x : Int), .int .i64 (u : Int)] W fun e w' => e = .returned (.tuple #[.int .i64 l, .int .i64 0]) ∧ Below W.heap.size W w')) := fun x hx => by
    obtain ⟨l, hl, hln, el⟩ := lat_left G.lat hx hu
    obtain ⟨r, hr, hrn, er⟩ := lat_right G.lat hx hu
    obtain rfl := grp_inv hA hU hx hln hrn el er
    exact ⟨l, fun W b => Left_ok n x u l L v W (hv.below (Below.next HB0.out b)) G hx hu hl, fun W b => Right_ok n x u l L v W (hv.below (Below.next HB0.out b)) G hx hu hr⟩
  have HCO : Hid (∀ W (k : Nat), Below w0.heap.size w0 W → k < 256 → Calls Try.prog 26 #[.agg #[.int .i64 (n : Int), v], .int .i64 (k : Int)] W fun e w' => e = .returned (.bool (cloB n (sq n L) k.testBit)) ∧ Below W.heap.size W w') := fun W k b hk => Closed_any n k L v W _ (hv.below (Below.next HB0.out b)) G hk rfl
  have HLG : Hid (∀ k, 1 ≤ k → k < 2 ^ n → cloB n (sq n L) k.testBit = true → k.testBit u = true ∧ (List.range n).countP k.testBit ∣ n) := fun k h1 h2 h3 => by
    obtain ⟨x, hx, hb⟩ := bit_ex h1 h2
    exact ⟨clo_unit G.lat h3 hx hb hu hU, clo_dvd G.lat hA h3 hx hb hu hU⟩
  obtain ⟨N, hN⟩ : ∃ N, N = 2 ^ n := ⟨_, rfl⟩
  have hN8 : N ≤ 256 := by rw [hN]; exact pow_le h8
  have hpw : (2 : Int) ^ n = (N : Int) := by rw [hN]; simp
  have hN1 : 1 ≤ N := by rw [hN]; exact Nat.pos_of_ne_zero (by simp)
  rw [← hN] at HLG
  obtain ⟨x0, x1⟩ := HCL.out _ (Below.refl _ _)
  rw [Hw0.out] at x0 x1
  have hb0 := balloc w (.cells #[.int .i64 (n : Int), v] 24)
  have hnn : (0 : Int) < n := by omega
  clear hv G hA ho hU hN
  go_enter Try.func6, Try.ntmps6
  go_wp2_with (first
    | (go_at_call 25; refine C0.mono ?_; rintro e w1 ⟨rfl, b1⟩; rw [← Hw0.out] at b1; obtain ⟨y0, y1⟩ := HCL.out _ b1; clear C0)
    | (go_at_call 11; refine (C1 _ (Below.next HB0.out b1)).mono ?_; rintro e w2 ⟨rfl, b2⟩; have d2 := Below.next b1 b2; obtain ⟨z0, z1⟩ := HCL.out _ d2; clear C1)
    | (go_at_call 9; refine (C2 _ (Below.next HB0.out d2)).mono ?_; rintro e w3 ⟨rfl, b3⟩; have d3 := Below.next d2 b3; obtain ⟨t0, t1⟩ := HCL.out _ d3; clear C2))
  clear x0 x1 y0 y1 z0 z1
  go_loopw [7] (fun i wr => ∃ x : Nat, i = .int .i64 (x : Int) ∧ x ≤ n ∧ Below w0.heap.size w0 wr) (fun i _ => (n - intOf i).toNat)
  case atStart => exact ⟨0, rfl, by omega, d3⟩
  case round =>
    clear t0 t1 d3 d2 b1 b2 b3
    obtain ⟨x, rfl, hx, hB⟩ := hrel
    obtain ⟨x0, x1⟩ := HCL.out _ hB
    by_cases hlt : x < n
    · have hdx : decide ((x : Int) < (n : Int)) = true := by simp; omega
      obtain ⟨l, E1, E2⟩ := HLR.out x hlt
      have hne : ((l : Int) != (l : Int)) = false := by simp
      go_wp2_with (first
        | (go_at_call 19; refine (E1 _ hB).mono ?_; rintro e w1 ⟨rfl, b1⟩; have d1 := Below.next hB b1; obtain ⟨y0, y1⟩ := HCL.out _ d1; clear E1)
        | (go_at_call 20; refine (E2 _ d1).mono ?_; rintro e w2 ⟨rfl, b2⟩; have d2 := Below.next d1 b2; clear E2))
      go_roundw
      case rel => exact ⟨x + 1, by go_num, by omega, d2⟩
      case measure => simp [intOf]; omega
    · have hdx : decide ((x : Int) < (n : Int)) = false := by simp; omega
      obtain rfl : x = n := by omega
      go_wp2
      go_loopw [12] (fun sv wr => ∃ k : Nat, sv = .int .i64 (k : Int) ∧ 1 ≤ k ∧ k ≤ N ∧ Below w0.heap.size w0 wr) (fun sv _ => (N - intOf sv).toNat)
      case atStart => exact ⟨1, rfl, by omega, by omega, hB⟩
      case round =>
        clear x0 x1 hB hlt hdx
        obtain ⟨k, rfl, hk1, hkN, hB⟩ := hrel
        obtain ⟨x0, x1⟩ := HCL.out _ hB
        by_cases hlk : k < N
        · have hdk : decide ((k : Int) < (N : Int)) = true := by simp; omega
          have E := HCO.out _ k hB (by omega)
          cases hq : cloB x (sq x L) k.testBit with
          | false =>
            rw [hq] at E
            go_wp2_with (go_at_call 26; refine E.mono ?_; rintro e w1 ⟨rfl, b1⟩; have d1 := Below.next hB b1; clear E)
            go_roundw
            case rel => exact ⟨k + 1, by go_num, by omega, by omega, d1⟩
            case measure => simp [intOf]; omega
          | true =>
            rw [hq] at E
            obtain ⟨hku, hdv⟩ := HLG.out k hk1 hlk hq
            have HDV : Hid ((List.range x).countP k.testBit ∣ x) := hdv
            have HBI : Hid (∀ y, bits BinOp.and IntKind.i64 ((k : Int) / 2 ^ y) 1 = if k.testBit y then 1 else 0) := fun y => bit_i y (by omega)
            have hbu := HBI.out u
            rw [hku] at hbu
            have hbu1 : bits BinOp.and IntKind.i64 ((k : Int) / 2 ^ u) 1 = 1 := hbu
            have hu8 : u < 8 := by omega
            clear hq hku hdv hbu
            go_wp2_with (go_at_call 26; refine E.mono ?_; rintro e w1 ⟨rfl, b1⟩; have d1 := Below.next hB b1; obtain ⟨y0, y1⟩ := HCL.out _ d1; clear E)
            go_loopw [14, 15] (fun cv jv wr => ∃ (c y : Nat), cv = .int .i64 (c : Int) ∧ jv = .int .i64 (y : Int) ∧ y ≤ x ∧ c ≤ y ∧ Hid ((List.range y).countP k.testBit = c) ∧ Below w0.heap.size w0 wr) (fun _ jv _ => (x - intOf jv).toNat)
            case atStart => exact ⟨0, 0, rfl, rfl, by omega, by omega, rfl, d1⟩
            case round =>
              clear x0 x1 hB y0 y1 b1 d1
              obtain ⟨c, y, rfl, rfl, hy, hcy, HC, hB⟩ := hrel
              obtain ⟨x0, x1⟩ := HCL.out _ hB
              by_cases hly : y < x
              · have hdy : decide ((y : Int) < (x : Int)) = true := by simp; omega
                have hy8 : y < 8 := by omega
                have HC2 : Hid ((List.range (y + 1)).countP k.testBit = c + if k.testBit y = true then 1 else 0) := by show _ = _; rw [countP_succ, HC.out]
                have hby := HBI.out y
                cases hq : k.testBit y with
                | true =>
                  rw [hq] at hby HC2
                  have hby1 : bits BinOp.and IntKind.i64 ((k : Int) / 2 ^ y) 1 = 1 := hby
                  have HC3 : Hid ((List.range (y + 1)).countP k.testBit = c + 1) := HC2
                  clear hby hq HC2 HC
                  go_wp2
                  go_roundw
                  case rel => exact ⟨c + 1, y + 1, by go_num, by go_num, by omega, by omega, HC3, hB⟩
                  case measure => simp [intOf]; omega
                | false =>
                  rw [hq] at hby HC2
                  have hby1 : bits BinOp.and IntKind.i64 ((k : Int) / 2 ^ y) 1 = 0 := hby
                  have HC3 : Hid ((List.range (y + 1)).countP k.testBit = c) := HC2
                  clear hby hq HC2 HC
                  go_wp2
                  go_roundw
                  case rel => exact ⟨c, y + 1, by go_num, by go_num, by omega, by omega, HC3, hB⟩
                  case measure => simp [intOf]; omega
              · have hdy : decide ((y : Int) < (x : Int)) = false := by simp; omega
                obtain rfl : y = x := by omega
                have hdv := HDV.out
                rw [HC.out] at hdv
                have hc1 : 1 ≤ c := Nat.pos_of_dvd_of_pos hdv h1
                have hcn : ¬ c = 0 := by omega
                have hci : (c : Int) ≠ 0 := by omega
                have hmd : (y : Int) % (c : Int) = 0 := Int.emod_eq_zero_of_dvd (Int.natCast_dvd_natCast.2 hdv)
                have htm : (y : Int).tmod (c : Int) = 0 := by rw [show (y : Int).tmod (c : Int) = ((y % c : Nat) : Int) from rfl, Nat.mod_eq_zero_of_dvd hdv]; rfl
                clear hdv HC
                go_wp2
                go_roundw
                case rel => exact ⟨k + 1, by go_num, by omega, by omega, hB⟩
                case measure => simp [intOf]; omega
        · have hdk : decide ((k : Int) < (N : Int)) = false := by simp; omega
          obtain rfl : k = N := by omega
          go_wp2
          go_ret
          exact ⟨rfl, Below.next HB0.out hB⟩
set_option maxHeartbeats 8000000 in
theorem QuasiGroup_law (s : Int) (L : List Int) (v : Value) (w : World) (hv : Sl w v L) (hL : L.length ≤ maxLen) :
    Calls Try.prog 6 #[.agg #[.int .i64 s, v]] w fun e w' => e = .returned (.bool true) ∧ Below w.heap.size w w' := by
  have SS : Hid (∀ W, Below (w.alloc (.cells #[.int .i64 s, v] 24)).heap.size (w.alloc (.cells #[.int .i64 s, v] 24)) W → W.cell? ⟨w.heap.size, 0, none⟩ = some (.int .i64 s) ∧ W.cell? ⟨w.heap.size, 1, none⟩ = some v ∧ W.rangeAt w.heap.size 0 [.int .i64 s, v]) := one_box s v w
  have hb0 := balloc w (.cells #[.int .i64 s, v] 24)
  have C0 := quasiFact_any (w.alloc (.cells #[.int .i64 s, v] 24))
  by_cases h : lF s L = 0
  · obtain ⟨n, rfl, G⟩ := lF_ok h
    cases hA : assB n (sq n L) with
    | true => exact QuasiGroup_main n L v w hv G hA
    | false =>
      have C1 := fun W (b : Below w.heap.size w W) => Associates_ok n L v W (hv.below b) G
      rw [hA] at C1
      clear hv G h hA
      go_enter Try.func6, Try.ntmps6
      go_wp2_with (first
        | (go_at_call 25; refine C0.mono ?_; rintro e w1 ⟨rfl, b1⟩; obtain ⟨y0, y1, _⟩ := SS.out _ b1; clear C0)
        | (go_at_call 11; refine (C1 _ (Below.next hb0 b1)).mono ?_; rintro e w2 ⟨rfl, b2⟩; have d2 := Below.next b1 b2; clear C1))
      go_ret
      exact ⟨rfl, Below.next hb0 d2⟩
  · have C1 := fun W (b : Below w.heap.size w W) => Associates_bad s L v W (hv.below b) hL h
    have hz0 : (lF s L : Int) ≠ 0 := by omega
    obtain ⟨z, hz⟩ : ∃ z : Int, z = (lF s L : Int) := ⟨_, rfl⟩
    rw [← hz] at C1 hz0
    have e1 : (z != 0) = true := bne_iff_ne.2 hz0
    clear hv h hz hz0
    go_enter Try.func6, Try.ntmps6
    go_wp2_with (first
      | (go_at_call 25; refine C0.mono ?_; rintro e w1 ⟨rfl, b1⟩; obtain ⟨y0, y1, _⟩ := SS.out _ b1; clear C0)
      | (go_at_call 11; refine (C1 _ (Below.next hb0 b1)).mono ?_; rintro e w2 ⟨rfl, b2⟩; have d2 := Below.next b1 b2; clear C1))
    go_ret
    exact ⟨rfl, Below.next hb0 d2⟩
end Go.Proofs.Ytncnaaohihmjnaa
