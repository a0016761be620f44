/- The walks of Centre, Derived; what these divide. -/
import Derived.Test.YtnbkabggmomhlaaG54
import Derived.Test.YtnbkabggmomhlaaG55
import Derived.Test.YtnbkabggmomhlaaG19
namespace Go.Proofs.Ytnbkabggmomhlaa
open Go.RowKit Go.Maps

/-- The order of the centre. -/
noncomputable def cenG (n : Nat) (ms : List (List Nat)) : Nat := cenC ms (els n (Gen n ms))
theorem cen_same {n : Nat} {ms L : List (List Nat)} (hm : ∀ m ∈ ms, IsP n m) (hn : n ≤ 7) (nd : L.Nodup) (h : ∀ a, a ∈ L ↔ Gen n ms a) : cenC (ms.map (ext n)) (L.map (ext n)) = cenG n ms := by
  unfold cenG cenC
  rw [List.countP_map, (gen_perm hm nd h).countP_eq]
  refine List.countP_congr fun a ha => ?_
  have pa := ((gen_grp hm).isP a ((gen_grp hm).mem.1 ha))
  simp only [Function.comp, decide_eq_true_eq]
  constructor
  · intro k m hm'
    have := k (ext n m) (List.mem_map.2 ⟨m, hm', rfl⟩)
    rw [← ext_then pa hn, ← ext_then (hm m hm') hn] at this
    exact ext_inj (pa.then (hm m hm')).len ((hm m hm').then pa).len hn this
  · intro k m hm'
    obtain ⟨a', ha', rfl⟩ := List.mem_map.1 hm'
    rw [← ext_then pa hn, ← ext_then (hm a' ha') hn, k a' ha']
open Classical in
theorem cen_els {n : Nat} {ms : List (List Nat)} (hm : ∀ m ∈ ms, IsP n m) : cenG n ms = (els n fun a => Gen n ms a ∧ ∀ b, Gen n ms b → thenL a b = thenL b a).length := by
  unfold cenG cenC
  rw [els_and, List.countP_eq_length_filter]
  congr 1
  refine List.filter_congr fun a ha => ?_
  have pa := ((gen_grp hm).isP a ((gen_grp hm).mem.1 ha))
  rw [decide_eq_decide]
  exact centre_makers hm pa
theorem cen_dvd {n : Nat} {ms : List (List Nat)} (hm : ∀ m ∈ ms, IsP n m) : cenG n ms ∣ ordG n ms ∧ 0 < cenG n ms := by
  rw [cen_els hm]
  have hG := gen_grp hm
  exact ⟨lagrange hG (centre_grp hG) (fun a h => h.1), els_pos (centre_grp hG)⟩
/-- The order of what commutators make. -/
def DerIs (n : Nat) (ms : List (List Nat)) (d : Nat) : Prop := ∃ cs : List (List Nat), (∀ c ∈ cs, DerM n ms c) ∧ (∀ c, DerM n ms c → Gen n cs c) ∧ d = ordG n cs
theorem DerIs.dvd {n : Nat} {ms : List (List Nat)} {d : Nat} (hm : ∀ m ∈ ms, IsP n m) (h : DerIs n ms d) : d ∣ ordG n ms ∧ 0 < d := by
  obtain ⟨cs, h1, _, rfl⟩ := h
  have hG := gen_grp hm
  have pc : ∀ c ∈ cs, IsP n c := fun c hc => by
    obtain ⟨a, b, k1, k2, rfl⟩ := h1 c hc
    exact comm_isP (k1.isP hm) (hm b k2)
  have hin : ∀ c ∈ cs, Gen n ms c := fun c hc => by
    obtain ⟨a, b, k1, k2, rfl⟩ := h1 c hc
    have kb := Gen.maker hm k2
    exact (k1.inv hm).then hm ((kb.inv hm).then hm (k1.then hm kb))
  exact ⟨lagrange hG (gen_grp pc) (fun a ha => gen_in hG hin ha), els_pos (gen_grp pc)⟩
set_option maxRecDepth 100000 in
set_option maxHeartbeats 1000000 in
theorem Centre_ok (n : Nat) (ms : List (List Nat)) (v : Value) (w : World) (h : Mk n ms v w) :
    Calls Try.prog 28 #[.int .i64 (n : Int), v] w fun e w' => e = .returned (.tuple #[.int .i64 (cenG n ms : Int), .int .i64 0]) ∧ Below w.heap.size w w' := by
  have C1 := h.check
  have C2 := fun W (hb : Below w.heap.size w W) => (h.below hb).moves
  have C3 := fun x W hx => h.made x W hx
  have C4 := fun base G (L : List (List Nat)) x W (hM : Mem base W G (L.map (ext n))) (nd : L.Nodup) (hg : ∀ a, a ∈ L ↔ Gen n ms a) (hx : Mvs W x (ms.map (ext n))) => centre_any base G (ms.map (ext n)) _ x W hM (by rw [List.length_map]; exact (gen_bound h.isP h.n7 nd hg).1) (by rw [List.length_map]; have := (gen_bound h.isP h.n7 nd hg).2; omega) (fun y hy => by
    obtain ⟨z, hz, rfl⟩ := List.mem_map.1 hy
    exact ext_isP (((hg z).1 hz).isP h.isP) h.n7) (by rw [List.length_map]; exact h.len) hx h.ext7
  have E1 : Hid (∀ (L : List (List Nat)), L.Nodup → (∀ a, a ∈ L ↔ Gen n ms a) → cenC (ms.map (ext n)) (L.map (ext n)) = cenG n ms) := fun L nd hg => cen_same h.isP h.n7 nd hg
  clear h
  go_enter Try.func28, Try.ntmps28
  go_wp2_with (first
    | (go_at_call 10; refine C1.mono ?_; rintro e w1 ⟨rfl, b1⟩)
    | (go_at_call 38; refine (C2 _ b1).mono ?_; rintro e w2 ⟨⟨x, rfl, hx⟩, b2⟩; replace b2 := Below.next b1 b2)
    | (go_at_call 37; refine (C3 _ _ hx).mono ?_; rintro e w3 ⟨⟨G, L, rfl, hM, nd, hg⟩, b3⟩; have hx3 := hx.below b3; replace b3 := Below.next b2 b3)
    | (go_at_call 54; refine (C4 _ _ _ _ _ hM nd hg hx3).mono ?_; rw [E1.out L nd hg]; rintro e w4 ⟨rfl, b4⟩; replace b4 := Below.next b3 b4))
  exact bodyPost_ret (v := .tuple #[.int .i64 (cenG n ms : Int), .int .i64 0]) (by simp [results, Try.results28, go_sem]) rfl ⟨rfl, b4⟩

set_option maxRecDepth 100000 in
set_option maxHeartbeats 1000000 in
theorem Derived_ok (n : Nat) (ms : List (List Nat)) (v : Value) (w : World) (h : Mk n ms v w) :
    Calls Try.prog 29 #[.int .i64 (n : Int), v] w fun e w' => (∃ d : Nat, e = .returned (.tuple #[.int .i64 (d : Int), .int .i64 0]) ∧ DerIs n ms d) ∧ Below w.heap.size w w' := by
  have C1 := h.check
  have C2 := fun W (hb : Below w.heap.size w W) => (h.below hb).moves
  have C3 := fun x W hx => h.made x W hx
  have C4 := fun base G (L : List (List Nat)) x W (hM : Mem base W G (L.map (ext n))) (nd : L.Nodup) (hg : ∀ a, a ∈ L ↔ Gen n ms a) (hx : Mvs W x (ms.map (ext n))) => derived_any n base G ms L x W h.n7 hM nd hg h.len hx h.isP
  have HD : Hid (∀ cs : List (List Nat), (∀ c ∈ cs, DerM n ms c) → ∀ c ∈ cs, IsP n c) := fun cs hc c h' => by
    obtain ⟨a, b, h1, h2, rfl⟩ := hc c h'
    exact comm_isP (h1.isP h.isP) (h.isP b h2)
  have HN : Hid (n ≤ 7) := h.n7
  have C5 := fun base G (L cs : List (List Nat)) W (hM : Mem base W G (L.map (ext n))) (nd : L.Nodup) (hg : ∀ a, a ∈ L ↔ Gen n cs a) (hc : ∀ c ∈ cs, DerM n ms c) => order_any base G _ W hM (by rw [List.length_map]; exact (gen_bound (HD.out cs hc) HN.out nd hg).1)
  have E1 : Hid (∀ (L cs : List (List Nat)), L.Nodup → (∀ a, a ∈ L ↔ Gen n cs a) → (∀ c ∈ cs, DerM n ms c) → (L.map (ext n)).length = ordG n cs) := fun L cs nd hg hc => by rw [List.length_map]; exact gen_len (HD.out cs hc) nd hg
  clear h
  go_enter Try.func29, Try.ntmps29
  go_wp2_with (first
    | (go_at_call 10; refine C1.mono ?_; rintro e w1 ⟨rfl, b1⟩)
    | (go_at_call 38; refine (C2 _ b1).mono ?_; rintro e w2 ⟨⟨x, rfl, hx⟩, b2⟩; replace b2 := Below.next b1 b2)
    | (go_at_call 37; refine (C3 _ _ hx).mono ?_; rintro e w3 ⟨⟨G, L, rfl, hM, nd, hg⟩, b3⟩; have hx3 := hx.below b3; replace b3 := Below.next b2 b3)
    | (go_at_call 55; refine (C4 _ _ _ _ _ hM nd hg hx3).mono ?_; rintro e w4 ⟨⟨b, G', L', cs, rfl, hM', nd', hg', hcs, hall⟩, b4⟩; replace b4 := Below.next b3 b4)
    | (go_at_call 39; refine (C5 _ _ _ _ _ hM' nd' hg' hcs).mono ?_; rw [E1.out L' cs nd' hg' hcs]; rintro e w5 ⟨rfl, rfl⟩))
  exact bodyPost_ret (v := .tuple #[.int .i64 (ordG n cs : Int), .int .i64 0]) (by simp [results, Try.results29, go_sem]) rfl ⟨⟨_, rfl, cs, hcs, hall, rfl⟩, b4⟩

end Go.Proofs.Ytnbkabggmomhlaa
