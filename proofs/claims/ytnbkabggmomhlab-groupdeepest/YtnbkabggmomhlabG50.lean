/- The walks of primitive, Primitive. -/
import Derived.Test.YtnbkabggmomhlabG69
import Derived.Test.YtnbkabggmomhlabG19
namespace Go.Proofs.Ytnbkabggmomhlab
open Go.RowKit Go.Maps

theorem prim_whole {n p : Nat} {ms : List (List Nat)} {c : Nat → Nat} (hn : n ≤ 7) (h : Prim n ms) (hp1 : 1 ≤ p) (hpn : p < n) (F : Finest (ms.map (ext n)) 0 p c) : ∀ i, i < n → c i = 0 := by
  intro i hi
  have hk : keptB ms n c := by
    intro m hm' x y hx hy e
    have := F.keeps (ext n m) (List.mem_map.2 ⟨m, hm', rfl⟩) x y (by omega) (by omega) e
    rwa [ext_lo hn m hx, ext_lo hn m hy] at this
  have h3 := h.2.2 c hk ⟨0, p, by omega, hpn, by omega, F.two⟩ i 0 hi (by omega)
  have h4 := F.cut.le 0
  omega
theorem whole_prim {n : Nat} {ms : List (List Nat)} (hn : n ≤ 7) (h2 : 2 ≤ n) (hm : ∀ m ∈ ms, IsP n m) (ho : ∀ x, x < n → Orb (Gen n ms) 0 x) (h : ∀ p, 1 ≤ p → p < n → ∃ c, Finest (ms.map (ext n)) 0 p c ∧ ∀ i, i < n → c i = 0) : Prim n ms := by
  have h' : ∀ p, ∃ c, 1 ≤ p → p < n → Finest (ms.map (ext n)) 0 p c ∧ ∀ i, i < n → c i = 0 := fun p => by
    by_cases hp : 1 ≤ p ∧ p < n
    · obtain ⟨c, hc⟩ := h p hp.1 hp.2
      exact ⟨c, fun _ _ => hc⟩
    · exact ⟨fun i => i, fun h1 h2 => absurd ⟨h1, h2⟩ hp⟩
  obtain ⟨C, hC⟩ := Classical.axiomOfChoice h'
  exact (prim_of_finest hn h2 hm ho (fun p h1 h2 => (hC p h1 h2).1)).2 fun p h1 h2 => (hC p h1 h2).2
theorem orbC_whole {n : Nat} {ms : List (List Nat)} {c : Nat → Nat} (hn : n ≤ 7) (h1 : 1 ≤ n) (hm : ∀ m ∈ ms, IsP n m) (h : OrbC (ms.map (ext n)) c) : (∀ i, i < n → c i = 0) ↔ ∀ x, x < n → Orb (Gen n ms) 0 x := by
  have h0 : c 0 = 0 := by have := h.cut.le 0; omega
  constructor
  · intro k x hx
    exact (h.orb hn hm (by omega) hx).1 (by rw [h0, k x hx])
  · intro k x hx
    rw [← (h.orb hn hm (by omega) hx).2 (k x hx), h0]

set_option maxRecDepth 100000 in
set_option maxHeartbeats 4000000 in
theorem primitive_any (n : Nat) (ms : List (List Nat)) (v : Value) (w : World) (hn : n ≤ 7) (h1 : 1 ≤ n) (hk : ms.length ≤ 4) (hv : Mvs w v (ms.map (ext n))) (hm : ∀ m ∈ ms, IsP n m) :
    Calls Try.prog 13 #[.int .i64 (n : Int), v] w fun e w' => (∃ b : Bool, e = .returned (.bool b) ∧ (b = true ↔ Prim n ms)) ∧ Below w.heap.size w w' := by
  have h7 : ∀ m ∈ ms.map (ext n), IsP 7 m := fun m hm' => by
    obtain ⟨a, ha, rfl⟩ := List.mem_map.1 hm'
    exact ext_isP (hm a ha) hn
  have hl : (ms.map (ext n)).length ≤ 4 := by rw [List.length_map]; exact hk
  have C1 := orbits_any _ v w hl hv h7
  have C2 := fun (c : Nat → Nat) W => whole_any c n W hn
  have C3 := fun (p : Nat) (hp : p < 7) W (h : Below w.heap.size w W) => kept_any _ v 0 p W hl (hv.below h) h7 (by omega) hp
  have HM : Hid (∀ m ∈ ms, IsP n m) := hm
  obtain ⟨a, cap, hve⟩ := hv.form
  obtain ⟨k, Hk⟩ : ∃ k, Hid ((ms.map (ext n)).length = k) := ⟨_, rfl⟩
  rw [Hk.out] at hve
  subst hve
  clear hv hm h7 hl
  by_cases h2 : n < 2
  · have hd : decide ((n : Int) < 2) = true := by simp; omega
    go_enter Try.func13, Try.ntmps13
    go_wp2
    go_ret
    exact ⟨⟨false, rfl, fun h => absurd h Bool.false_ne_true, fun h => absurd h.1 (by omega)⟩, Below.refl _ _⟩
  have hd : decide ((n : Int) < 2) = false := by simp; omega
  by_cases ho : ∀ x, x < n → Orb (Gen n ms) 0 x
  · have HO : Hid (∀ x, x < n → Orb (Gen n ms) 0 x) := ho
    have C2o := fun (c : Nat → Nat) (hc : OrbC (ms.map (ext n)) c) W => (C2 c W).mono (R' := fun e w' => e = .returned (.bool true) ∧ Below W.heap.size W w') (fun e w' ⟨⟨b, h1', h2'⟩, h3'⟩ => ⟨by rw [h1', h2'.2 ((orbC_whole hn h1 HM.out hc).2 HO.out)], h3'⟩)
    clear ho
    go_enter Try.func13, Try.ntmps13
    go_wp2_with (first
      | (go_at_call 20; refine C1.mono ?_; rintro e w1 ⟨⟨c, rfl, hc⟩, b1⟩)
      | (go_at_call 21; refine (C2o c hc _).mono ?_; rintro e w2 ⟨rfl, b2⟩; replace b2 := Below.next b1 b2))
    clear C2o hc C1
    go_loopw [5] (fun i wr => ∃ p : Nat, i = .int .i64 p ∧ 1 ≤ p ∧ p ≤ n ∧ Hid (∀ t, 1 ≤ t → t < p → ∃ c, Finest (ms.map (ext n)) 0 t c ∧ ∀ i, i < n → c i = 0) ∧ Below w.heap.size w wr) (fun i _ => (n - intOf i).toNat)
    case atStart => exact ⟨1, rfl, by omega, by omega, (fun t h1 h2 => by omega : ∀ t, 1 ≤ t → t < 1 → _), b2⟩
    case round =>
      clear b1 b2
      obtain ⟨p, rfl, hp1, hp, HA, hB⟩ := hrel
      by_cases hlt : p < n
      · have hpi : (p : Int) < n := by omega
        have hdec : decide ((p : Int) < n) = true := by simp; omega
        have D := C3 p (by omega) _ hB
        refine Classical.byCases (p := ∃ c, Finest (ms.map (ext n)) 0 p c ∧ ∀ i, i < n → c i = 0) (fun hex => ?_) (fun hex => ?_)
        · -- all finest cuts are one
          have E := fun (c : Nat → Nat) (hc : Finest (ms.map (ext n)) 0 p c) W => (C2 c W).mono (R' := fun e w' => (∃ b : Bool, e = .returned (.bool b) ∧ (b = true ↔ ∀ i, i < n → c i = 0)) ∧ Below W.heap.size W w') (fun e w' h => h)
          have HW : Hid (∀ c, Finest (ms.map (ext n)) 0 p c → ∀ i, i < n → c i = 0) := fun c hc i hi => by
            obtain ⟨d, hd, hz⟩ := hex
            have h3 := hd.fin c hc.keeps hc.two i 0 (by omega) (by omega) (by rw [hz i hi, hz 0 (by omega)])
            have h4 := hc.cut.le 0
            omega
          have E' := fun (c : Nat → Nat) (hc : Finest (ms.map (ext n)) 0 p c) W => (C2 c W).mono (R' := fun e w' => e = .returned (.bool true) ∧ Below W.heap.size W w') (fun e w' ⟨⟨b, h1', h2'⟩, h3'⟩ => ⟨by rw [h1', h2'.2 (HW.out c hc)], h3'⟩)
          clear E hex
          go_wp2_with (first
            | (go_at_call 22; refine D.mono ?_; rintro e w1 ⟨⟨c, rfl, hc⟩, b1⟩; replace b1 := Below.next hB b1)
            | (go_at_call 21; refine (E' c hc _).mono ?_; rintro e w2 ⟨rfl, b2⟩; replace b2 := Below.next b1 b2))
          go_roundw
          case rel =>
            refine ⟨p + 1, by go_num, by omega, by omega, (fun t h1 h2 => ?_ : ∀ t, 1 ≤ t → t < p + 1 → _), b2⟩
            by_cases e : t = p
            · rw [e]; exact ⟨c, hc, HW.out c hc⟩
            · exact HA.out t h1 (by omega)
          case measure => simp [intOf]; omega
        · have HEX : Hid (¬ ∃ c, Finest (ms.map (ext n)) 0 p c ∧ ∀ i, i < n → c i = 0) := hex
          have E' := fun (c : Nat → Nat) (hc : Finest (ms.map (ext n)) 0 p c) W => (C2 c W).mono (R' := fun e w' => e = .returned (.bool false) ∧ Below W.heap.size W w') (fun e w' ⟨⟨b, h1', h2'⟩, h3'⟩ => ⟨by
            cases b with
            | false => exact h1'
            | true => exact absurd ⟨c, hc, h2'.1 rfl⟩ HEX.out, h3'⟩)
          clear hex
          go_wp2_with (first
            | (go_at_call 22; refine D.mono ?_; rintro e w1 ⟨⟨c, rfl, hc⟩, b1⟩; replace b1 := Below.next hB b1)
            | (go_at_call 21; refine (E' c hc _).mono ?_; rintro e w2 ⟨rfl, b2⟩; replace b2 := Below.next b1 b2))
          go_ret
          exact ⟨⟨false, rfl, fun h => absurd h Bool.false_ne_true, fun h => absurd ⟨c, hc, prim_whole hn h hp1 hlt hc⟩ HEX.out⟩, b2⟩
      · obtain rfl : p = n := by omega
        have hkd : decide ((p : Int) < (p : Int)) = false := by simp
        go_wp2
        go_ret
        exact ⟨⟨true, rfl, fun _ => whole_prim hn (by omega) HM.out HO.out HA.out, fun _ => rfl⟩, hB⟩
  · have HO : Hid (¬ ∀ x, x < n → Orb (Gen n ms) 0 x) := ho
    have C2o := fun (c : Nat → Nat) (hc : OrbC (ms.map (ext n)) c) W => (C2 c W).mono (R' := fun e w' => e = .returned (.bool false) ∧ Below W.heap.size W w') (fun e w' ⟨⟨b, h1', h2'⟩, h3'⟩ => ⟨by
      cases b with
      | false => exact h1'
      | true => exact absurd ((orbC_whole hn h1 HM.out hc).1 (h2'.1 rfl)) HO.out, h3'⟩)
    clear ho
    go_enter Try.func13, Try.ntmps13
    go_wp2_with (first
      | (go_at_call 20; refine C1.mono ?_; rintro e w1 ⟨⟨c, rfl, hc⟩, b1⟩)
      | (go_at_call 21; refine (C2o c hc _).mono ?_; rintro e w2 ⟨rfl, b2⟩; replace b2 := Below.next b1 b2))
    go_ret
    exact ⟨⟨false, rfl, fun h => absurd h Bool.false_ne_true, fun h => absurd h.2.1 HO.out⟩, b2⟩

set_option maxRecDepth 100000 in
set_option maxHeartbeats 1000000 in
theorem Primitive_ok (n : Nat) (ms : List (List Nat)) (v : Value) (w : World) (h : Mk n ms v w) :
    Calls Try.prog 7 #[.int .i64 (n : Int), v] w fun e w' => (∃ b : Bool, e = .returned (.tuple #[.bool b, .int .i64 0]) ∧ (b = true ↔ Prim n ms)) ∧ Below w.heap.size w w' := by
  have C1 := h.check
  have C2 := fun W (hb : Below w.heap.size w W) => (h.below hb).moves
  have C3 := fun x W (hx : Mvs W x (ms.map (ext n))) => primitive_any n ms x W h.n7 h.n1 h.len hx h.isP
  clear h
  go_enter Try.func7, Try.ntmps7
  go_wp2_with (first
    | (go_at_call 8; refine C1.mono ?_; rintro e w1 ⟨rfl, b1⟩)
    | (go_at_call 10; refine (C2 _ b1).mono ?_; rintro e w2 ⟨⟨x, rfl, hx⟩, b2⟩; replace b2 := Below.next b1 b2)
    | (go_at_call 13; refine (C3 _ _ hx).mono ?_; rintro e w3 ⟨⟨B, rfl, HB⟩, b3⟩; replace b3 := Below.next b2 b3))
  exact bodyPost_ret (v := .tuple #[.bool B, .int .i64 0]) (by simp [results, Try.results7, go_sem]) rfl ⟨⟨B, rfl, HB⟩, b3⟩

end Go.Proofs.Ytnbkabggmomhlab
