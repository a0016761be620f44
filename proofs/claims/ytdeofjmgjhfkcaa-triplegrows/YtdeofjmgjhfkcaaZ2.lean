/- The walk of the document's GrowOf; the law TripleGrows. -/
import Derived.Test.YtdeofjmgjhfkcaaY7
import Derived.Test.YtdeofjmgjhfkcaaW1
import Derived.Test.YtdeofjmgjhfkcaaDL
import Derived.Test.YtdeofjmgjhfkcaaL3
import Derived.Test.YtdeofjmgjhfkcaaD1
/- The walk of the document's grown where blocks lack. -/
/- The walk of the document's grown. -/
namespace Go.Proofs.Ytdeofjmgjhfkcaa
open Go.RowKit Go.Maps

def GnP (v k : Nat) (L : List (List Nat)) (w : World) (e : Ending) (w' : World) : Prop := (∃ R x, gr v k L = some R ∧ e = .returned (.tuple #[x, .bool true]) ∧ Rw w' x (toZ R) ∧ Below w.heap.size w w') ∨ (gr v k L = none ∧ e = .returned (.tuple #[.slice none 0 0, .bool false]) ∧ Below w.heap.size w w')
theorem two_way {x y z a b c : Nat} (h1 : x < y) (h2 : y < z) (g1 : a < b) (g2 : b < c) : 2 ≤ mt [x, y, z] [a, b, c] ↔ (a ∈ [x, y, z] ∧ b ∈ [x, y, z]) ∨ (a ∈ [x, y, z] ∧ c ∈ [x, y, z]) ∨ (b ∈ [x, y, z] ∧ c ∈ [x, y, z]) := by
  rw [mt_cv]
  simp only [List.mem_cons, List.not_mem_nil, or_false]
  constructor <;> intro h <;> omega
theorem none_cv2 {v i a b c : Nat} {L : List (List Nat)} (hR : Rise3 v L) (g1 : a < b) (g2 : b < c) (hi : i ≤ L.length) (h : ∀ (j : Nat) (d : List Nat), j < i → L[j]? = some d → mt d [a, b, c] ≤ 1) : (cv (L.take i) a b || cv (L.take i) a c || cv (L.take i) b c) = false := by
  have key : ∀ p q, (∀ d, (p ∈ d ∧ q ∈ d) → d ∈ L → 2 ≤ mt d [a, b, c]) → cv (L.take i) p q = false := fun p q hk => by
    rw [← Bool.not_eq_true]
    intro hcv
    obtain ⟨d, hd, hp⟩ := cv_iff.1 hcv
    obtain ⟨j, hj⟩ := List.getElem?_of_mem hd
    have hji : j < i := by have := (List.getElem?_eq_some_iff.1 hj).1; rw [List.length_take] at this; omega
    rw [List.getElem?_take, if_pos hji] at hj
    have := h j d hji hj
    have := hk d hp (List.mem_of_getElem? hj)
    omega
  have tw : ∀ d ∈ L, (2 ≤ mt d [a, b, c] ↔ (a ∈ d ∧ b ∈ d) ∨ (a ∈ d ∧ c ∈ d) ∨ (b ∈ d ∧ c ∈ d)) := fun d hd => by
    obtain ⟨x, y, z, rfl, h1, h2, _⟩ := hR d hd
    exact two_way h1 h2 g1 g2
  rw [key a b fun d h hd => (tw d hd).2 (.inl h), key a c fun d h hd => (tw d hd).2 (.inr (.inl h)), key b c fun d h hd => (tw d hd).2 (.inr (.inr h))]
  rfl
theorem some_cv2 {v j a b c : Nat} {L : List (List Nat)} {d : List Nat} (hR : Rise3 v L) (g1 : a < b) (g2 : b < c) (hj : L[j]? = some d) (h : 2 ≤ mt d [a, b, c]) : (cv L a b || cv L a c || cv L b c) = true := by
  obtain ⟨x, y, z, rfl, h1, h2, _⟩ := hR d (List.mem_of_getElem? hj)
  have hm := List.mem_of_getElem? hj
  rw [Bool.or_eq_true, Bool.or_eq_true]
  rcases (two_way h1 h2 g1 g2).1 h with h | h | h
  · exact .inl (.inl (cv_iff.2 ⟨_, hm, h⟩))
  · exact .inl (.inr (cv_iff.2 ⟨_, hm, h⟩))
  · exact .inr (cv_iff.2 ⟨_, hm, h⟩)
theorem Bef.snoc {v x y : Nat} {L : List (List Nat)} (h : Bef v L x y) (b : List Nat) : Bef v (L ++ [b]) x y := fun p q hp hq hb => by rw [cv_snoc, h p q hp hq hb]; rfl
theorem cv_take {L : List (List Nat)} {i : Nat} {d : List Nat} (h : L[i]? = some d) (a b : Nat) : cv (L.take (i + 1)) a b = (cv (L.take i) a b || (d.contains a && d.contains b)) := by
  rw [List.take_add_one, h]
  exact cv_snoc _ _ _ _
theorem Pk.rise3 {v : Nat} {L : List (List Nat)} (h : Pk v L) : Rise3 v L := h.rise
set_option maxRecDepth 100000 in
set_option maxHeartbeats 4000000 in
theorem grown_full (v k : Nat) (h9 : v ≤ 9) (L : List (List Nat)) (u : Value) (w : World) (hu : Rw w u (toZ L)) (hp : Pk v L) (hf : Full v L) (a b c : Int) : Calls Try.prog 44 #[.int .i64 (v : Int), u, .int .i64 a, .int .i64 b, .int .i64 c] w (GnP v k L w) := by
  have HFIN : Hid (∀ x, x = u → GnP v k L w (.returned (.tuple #[x, .bool true])) w) := fun x e => .inl ⟨L, x, gr_full hf, rfl, by rw [e]; exact hu, Below.refl _ _⟩
  have hlen := hp.full.1 hf
  have hfew := hp.few h9
  obtain ⟨ua, uc, rfl, _⟩ := drow_of hu
  generalize L.length = n at *
  rcases Nat.eq_zero_or_pos v with h0 | h0
  · subst h0
    have hn0 : n = 0 := by omega
    subst hn0
    clear hu hp hf hlen
    go_enter Try.func44, Try.ntmps44
    go_wp2
    exact bodyPost_ret (v := .tuple #[_, .bool true]) (by simp [results, Try.results44, go_sem]) rfl (HFIN.out _ rfl)
  · have hm : v * (v - 1) ≤ 72 := nine_le h9
    have hmu : (v : Int) * ((v : Int) - 1) = (n : Int) * 6 := by
      have e1 : ((v : Int) - 1) = ((v - 1 : Nat) : Int) := by omega
      rw [e1, ← Int.natCast_mul, ← hlen]
      omega
    have he : ((n : Int) * 6 == (n : Int) * 6) = true := by simp
    clear hu hp hf hlen
    go_enter Try.func44, Try.ntmps44
    go_wp2
    exact bodyPost_ret (v := .tuple #[_, .bool true]) (by simp [results, Try.results44, go_sem]) rfl (HFIN.out _ rfl)

end Go.Proofs.Ytdeofjmgjhfkcaa

namespace Go.Proofs.Ytdeofjmgjhfkcaa
open Go.RowKit Go.Maps

def OkS (L : List (List Nat)) (a b c i : Nat) (ok : Bool) : Prop := (ok = true ∧ ∀ (j : Nat) (d : List Nat), j < i → L[j]? = some d → mt d [a, b, c] ≤ 1) ∨ (ok = false ∧ (cv L a b || cv L a c || cv L b c) = true)
set_option maxRecDepth 100000 in
set_option maxHeartbeats 32000000 in
theorem grown_go (v k : Nat) (h1 : 1 ≤ v) (h9 : v ≤ 9) (L : List (List Nat)) (u : Value) (w : World) (hu : Rw w u (toZ L)) (hp : Pk v L) (hf : ¬ Full v L) (h12 : 12 ≤ L.length + (k + 1)) (a b c : Nat) (hbef : Bef v L a b) (hab : a < b) (hbc : b < c) (hc : c = b + 1 ∨ cv L a b = true) (hav : a ≤ v) (hbv : b ≤ v + 1) (hcv : c ≤ v + 2)
    (ih : ∀ (L : List (List Nat)) (u : Value) (w : World) (a b c : Nat), Rw w u (toZ L) → Pk v L → 12 ≤ L.length + k → Bef v L a b → a < b → b < c → (c = b + 1 ∨ cv L a b = true) → a ≤ v → b ≤ v + 1 → c ≤ v + 2 → Calls Try.prog 44 #[.int .i64 (v : Int), u, .int .i64 (a : Int), .int .i64 (b : Int), .int .i64 (c : Int)] w (GnP v k L w)) :
    Calls Try.prog 44 #[.int .i64 (v : Int), u, .int .i64 (a : Int), .int .i64 (b : Int), .int .i64 (c : Int)] w (GnP v (k + 1) L w) := by
  have hlen : ¬ 6 * L.length = v * (v - 1) := fun h => hf (hp.full.2 h)
  have hfew := hp.few h9
  obtain ⟨news, hsrc, hone, hnew⟩ := src_rows hu
  obtain ⟨ua, uc, rfl, hD⟩ := drow_of hu
  have HSRC : Hid (∀ W, Below w.heap.size w W → SrcC W (.slice ua L.length uc) L.length news) := hsrc
  have HONE : Hid (∀ x ∈ news, x.oneCell' = true) := hone
  have HNEW : Hid (∀ (i : Nat) (x : Value) (l : List Nat), news[i]? = some x → L[i]? = some l → Sl w x (l.map Int.ofNat)) := hnew
  have HFU : Hid (¬ Full v L) := hf
  have HPK : Hid (Pk v L) := hp
  have HROW : Hid (∀ i, i < L.length → ∃ d bb off ra rc, L[i]? = some d ∧ d.length = 3 ∧ ua = some ⟨bb, off, none⟩ ∧ ∀ W, Below w.heap.size w W → W.cell? ⟨bb, off + i, none⟩ = some (.slice ra 3 rc) ∧ Sl W (.slice ra 3 rc) (d.map Int.ofNat)) := fun i hi => by
    obtain ⟨bb, off, ra, rc, e, h⟩ := hD i _ (List.getElem?_eq_getElem hi)
    have h3 := hp.three _ (List.getElem_mem hi)
    rw [h3] at h
    exact ⟨_, bb, off, ra, rc, List.getElem?_eq_getElem hi, h3, e, h⟩
  have HIH : Hid (∀ (a b c : Nat) (x : Value) (W : World), a < b → b < c → c < v → (cv L a b || cv L a c || cv L b c) = false → Bef v L a b → Rw W x (toZ (L ++ [[a, b, c]])) → Calls Try.prog 44 #[.int .i64 (v : Int), x, .int .i64 (a : Int), .int .i64 (b : Int), .int .i64 ((c : Int) + 1)] W (GnP v k (L ++ [[a, b, c]]) W)) := fun a b c x W g1 g2 g3 hcv hb hx => by
    rw [Bool.or_eq_false_iff, Bool.or_eq_false_iff] at hcv
    have := ih (L ++ [[a, b, c]]) x W a b (c + 1) hx (hp.snoc g1 g2 g3 hcv.1.1 hcv.1.2 hcv.2) (by rw [List.length_append]; simp; omega) (hb.snoc _) g1 (by omega) (.inr (by rw [cv_snoc]; simp)) (by omega) (by omega) (by omega)
    simpa using this
  have HTG : Hid (∀ (d t : List Nat) (x y : Value) (W : World), Sl W x (d.map Int.ofNat) → Sl W y (t.map Int.ofNat) → d.length = 3 → t.length = 3 → Calls Try.prog 25 #[x, y] W fun e w' => e = .returned (.int .i64 ((mt d t : Nat) : Int)) ∧ w' = W) := fun b c x y W h1 h2 h3 h4 => Together_any b c x y W h1 h2 (by omega) (by omega)
  have HMT : Hid (∀ d t : List Nat, d.length = 3 → mt d t ≤ 3) := fun b c h => by
    have := List.countP_le_length (p := fun x => c.contains x) (l := b)
    unfold mt; omega
  have HLI : Hid (∀ (d : List Nat) (x : Nat) (y : Value) (W : World), Sl W y (d.map Int.ofNat) → d.length = 3 → Calls Try.prog 31 #[y, .int .i64 (x : Int)] W fun e w' => e = .returned (.bool (d.contains x)) ∧ w' = W) := fun d x y W h h3 => Lies_any d x _ y W h (by omega) rfl
  have HFA : Hid (∀ a b, a < b → b < v → cv L a b = false → Bef v L a b → gr v (k + 1) L = fz (gz v k L a b) (v - (b + 1)) (b + 1)) := fun a b g1 g2 g3 g4 => gr_fa ⟨g1, g2, g3, g4⟩
  have HBE : Hid (Bef v L a b) := hbef
  have HC0 : Hid (c = b + 1 ∨ cv L a b = true) := hc
  have hm : v * (v - 1) ≤ 72 := nine_le h9
  have e1 : (v : Int) * ((v : Int) - 1) = ((v * (v - 1) : Nat) : Int) := by
    rw [show ((v : Int) - 1) = ((v - 1 : Nat) : Int) by omega, ← Int.natCast_mul]
  generalize hn : L.length = n at *
  have HN : Hid (L.length = n) := hn
  generalize v * (v - 1) = vv at *
  have he : (((n : Int) * 6) == (vv : Int)) = false := by simp; omega
  have he2 : ¬ (n : Int) * 6 = (vv : Int) := by omega
  obtain ⟨i45, ji3, jz0, jz1, jz2⟩ := info36
  have HI45 : Hid (Try.prog.info? 45 = some i45 ∧ i45.zero = some (.slice none 0 0) ∧ i45.size = 1 ∧ i45.bytes = 24) := ⟨ji3, jz0, jz1, jz2⟩
  clear hu hp hf hD hsrc hone hnew ih hbef hc hn ji3 jz0 jz1 jz2
  go_enter Try.func44, Try.ntmps44
  go_wp2
  go_loopw [2, 3, 4] (fun av bv cv_ wr => ∃ (a b c : Nat), av = .int .i64 (a : Int) ∧ bv = .int .i64 (b : Int) ∧ cv_ = .int .i64 (c : Int) ∧ a < b ∧ b < c ∧ a ≤ v ∧ b ≤ v + 1 ∧ c ≤ v + 2 ∧ Hid (Bef v L a b) ∧ Hid (c = b + 1 ∨ cv L a b = true) ∧ Below w.heap.size w wr) (fun av _ _ _ => (v - intOf av).toNat)
  case atStart => exact ⟨a, b, c, rfl, rfl, rfl, hab, hbc, hav, hbv, hcv, HBE, HC0, Below.refl _ _⟩
  case round =>
    clear HBE HC0 hab hbc hav hbv hcv he he2 e1
    obtain ⟨a, b, c, rfl, rfl, rfl, hab, hbc, hav, hbv, hcv, HBE, HC0, hB⟩ := hrel
    by_cases hla : a < v
    · have hda : decide ((a : Int) < (v : Int)) = true := by simp; omega
      have hai : (a : Int) < (v : Int) := by omega
      have HBW : Hid (Below w.heap.size w wr) := hB
      clear hB
      go_wp2
      go_loopw [3, 4] (fun bv cv_ wr => ∃ (b c : Nat), bv = .int .i64 (b : Int) ∧ cv_ = .int .i64 (c : Int) ∧ a < b ∧ b < c ∧ b ≤ v + 1 ∧ c ≤ v + 2 ∧ Hid (Bef v L a b) ∧ Hid (c = b + 1 ∨ cv L a b = true) ∧ Below w.heap.size w wr) (fun bv _ _ => (v + 1 - intOf bv).toNat)
      case atStart => exact ⟨b, c, rfl, rfl, hab, hbc, hbv, hcv, HBE, HC0, HBW.out⟩
      case round =>
        clear HBE HC0 hab hbc hbv hcv HBW
        obtain ⟨b, c, rfl, rfl, hab, hbc, hbv, hcv, HBE, HC0, hB⟩ := hrel
        by_cases hlb : b < v
        · have hdb : decide ((b : Int) < (v : Int)) = true := by simp; omega
          have hbi : (b : Int) < (v : Int) := by omega
          have HZ0 : Hid (cv L a b = false → gr v (k + 1) L = fz (gz v k L a b) (v - c) c) := fun h0 => by
            have hcb : c = b + 1 := HC0.out.resolve_right (by rw [h0]; simp)
            rw [hcb]
            exact HFA.out a b hab hlb h0 HBE.out
          have HBW : Hid (Below w.heap.size w wr) := hB
          clear hB HC0
          go_wp2
          go_loopw [4] (fun cv_ wr => ∃ (c : Nat), cv_ = .int .i64 (c : Int) ∧ b < c ∧ c ≤ v + 2 ∧ Hid (cv L a b = false → gr v (k + 1) L = fz (gz v k L a b) (v - c) c) ∧ Below w.heap.size w wr) (fun cv_ _ => (v + 2 - intOf cv_).toNat)
          case atStart => exact ⟨c, rfl, hbc, hcv, HZ0, HBW.out⟩
          case round =>
            clear HZ0 HBW hbc hcv
            obtain ⟨c, rfl, hbc, hcv, HZ, hB⟩ := hrel
            by_cases hlc : c < v
            · have hdc : decide ((c : Int) < (v : Int)) = true := by simp; omega
              have hci : (c : Int) < (v : Int) := by omega
              have bT := balloc wr (.cells #[.int .i64 (a : Int), .int .i64 (b : Int), .int .i64 (c : Int)] 3)
              have hT := heap_alloc_new wr (.cells #[.int .i64 (a : Int), .int .i64 (b : Int), .int .i64 (c : Int)] 3)
              have hOT : ORow (wr.alloc (.cells #[.int .i64 (a : Int), .int .i64 (b : Int), .int .i64 (c : Int)] 3)) wr.heap.size (.slice (some ⟨wr.heap.size, 0, none⟩) 3 3) [a, b, c] := ⟨rfl, .inr ⟨wr.heap.size, 3, _, rfl, Nat.le_refl _, hT, Nat.le_refl _, by unfold maxLen; omega, rfl, rfl⟩⟩
              have HOT : Hid (ORow (wr.alloc (.cells #[.int .i64 (a : Int), .int .i64 (b : Int), .int .i64 (c : Int)] 3)) wr.heap.size (.slice (some ⟨wr.heap.size, 0, none⟩) 3 3) [a, b, c]) := hOT
              have HBT : Hid (Below w.heap.size w (wr.alloc (.cells #[.int .i64 (a : Int), .int .i64 (b : Int), .int .i64 (c : Int)] 3))) := hB.trans (bT.mono hB.size)
              have hws := hB.size
              have HB0 : Hid (Below w.heap.size w wr) := hB
              obtain ⟨wt, Hwt⟩ : ∃ wt, Hid (wt = wr.alloc (.cells #[.int .i64 (a : Int), .int .i64 (b : Int), .int .i64 (c : Int)] 3)) := ⟨_, rfl⟩
              have HWS : Hid (wt.heap.size = wr.heap.size + 1) := by show _ = _; rw [Hwt.out]; simp
              rw [← Hwt.out] at HOT HBT
              have HI0 : Hid (∀ (j : Nat) (d : List Nat), j < 0 → L[j]? = some d → mt d [a, b, c] ≤ 1) := fun j d h => by omega
              clear bT hT hOT hB
              go_wp2
              rw [← Hwt.out]
              generalize wr.heap.size = tb at *
              clear HB0 Hwt
              go_loopw [13, 14] (fun ov iv w' => ∃ (i : Nat) (ok : Bool), iv = .int .i64 (i : Int) ∧ ov = .bool ok ∧ i ≤ n ∧ Hid (OkS L a b c i ok) ∧ w' = wt) (fun _ iv _ => (n - intOf iv).toNat)
              case atStart => exact ⟨0, true, rfl, rfl, by omega, .inl ⟨rfl, HI0.out⟩, rfl⟩
              case round =>
                clear HI0
                obtain ⟨i, ok, rfl, rfl, hi, HOKI, hw⟩ := hrel
                subst hw
                cases ok with
                | false =>
                  have HCV : Hid ((cv L a b || cv L a c || cv L b c) = true) := HOKI.out.elim (fun h => by cases h.1) (fun h => h.2)
                  have HZ2 : Hid (cv L a b = false → gr v (k + 1) L = fz (gz v k L a b) (v - (c + 1)) (c + 1)) := fun h0 => by
                    rw [HZ.out h0]
                    refine fz_none hlc ?_
                    have := HCV.out
                    rw [h0, Bool.false_or] at this
                    unfold gz
                    rw [this, if_pos rfl]
                  by_cases hli : i < n
                  · have hdi : decide ((i : Int) < (n : Int)) = true := by simp; omega
                    have hii : (i : Int) < (n : Int) := by omega
                    go_wp2
                    go_roundw
                    case rel => exact ⟨c + 1, by go_num, by omega, by omega, HZ2, HBT.out⟩
                    case measure => simp [intOf]; omega
                  · have hdi : decide ((i : Int) < (n : Int)) = false := by simp; omega
                    have hii : ¬ (i : Int) < (n : Int) := by omega
                    go_wp2
                    go_roundw
                    case rel => exact ⟨c + 1, by go_num, by omega, by omega, HZ2, HBT.out⟩
                    case measure => simp [intOf]; omega
                | true =>
                  have HALLI : Hid (∀ (j : Nat) (d : List Nat), j < i → L[j]? = some d → mt d [a, b, c] ≤ 1) := HOKI.out.elim (fun h => h.2) (fun h => by cases h.1)
                  by_cases hli : i < n
                  · have hdi : decide ((i : Int) < (n : Int)) = true := by simp; omega
                    have hii : (i : Int) < (n : Int) := by omega
                    have hni : ¬ (n : Int) ≤ (i : Int) := by omega
                    obtain ⟨d, bb, off, ra, rc, hdi', h3, rfl, hrow⟩ := HROW.out i hli
                    obtain ⟨r0, r1⟩ := hrow wr HBT.out
                    have CT := HTG.out d [a, b, c] (.slice ra 3 rc) (.slice (some ⟨tb, 0, none⟩) 3 3) wr r1 HOT.out.sl h3 rfl
                    have HCT : Hid (Calls Try.prog 25 #[.slice ra 3 rc, .slice (some ⟨tb, 0, none⟩) 3 3] wr fun e w2 => e = .returned (.int .i64 ((mt d [a, b, c] : Nat) : Int)) ∧ w2 = wr) := CT
                    have hmt := HMT.out d [a, b, c] h3
                    have HNX : Hid (∀ ok : Bool, ok = decide (mt d [a, b, c] < 2) → OkS L a b c (i + 1) ok) := fun ok hok => by
                      by_cases h2 : mt d [a, b, c] < 2
                      · refine .inl ⟨by rw [hok]; exact decide_eq_true h2, fun j d' hj he => ?_⟩
                        by_cases e : j = i
                        · subst e
                          rw [hdi'] at he
                          cases he
                          omega
                        · exact HALLI.out j d' (by omega) he
                      · exact .inr ⟨by rw [hok]; exact decide_eq_false h2, some_cv2 HPK.out.rise3 hab hbc hdi' (by omega)⟩
                    clear CT hrow r1 hdi' HOKI
                    generalize mt d [a, b, c] = mm at *
                    by_cases h2 : mm < 2
                    · have hg : decide ((mm : Int) < 2) = true := decide_eq_true (by omega)
                      have hg2 : (mm : Int) < 2 := by omega
                      have HN2 := HNX.out true (decide_eq_true h2).symm
                      have HN3 : Hid (OkS L a b c (i + 1) true) := HN2
                      clear HN2
                      go_wp2_with (go_at_call 25; refine HCT.out.mono ?_; rintro e w5 ⟨rfl, hw⟩; replace hw := hw.symm; subst hw; clear HCT)
                      go_roundw
                      case rel => exact ⟨i + 1, true, by go_num, rfl, by omega, HN3, trivial⟩
                      case measure => simp [intOf]; omega
                    · have hg : decide ((mm : Int) < 2) = false := decide_eq_false (by omega)
                      have hg2 : ¬ (mm : Int) < 2 := by omega
                      have HN2 := HNX.out false (decide_eq_false h2).symm
                      have HN3 : Hid (OkS L a b c (i + 1) false) := HN2
                      clear HN2
                      go_wp2_with (go_at_call 25; refine HCT.out.mono ?_; rintro e w5 ⟨rfl, hw⟩; replace hw := hw.symm; subst hw; clear HCT)
                      go_roundw
                      case rel => exact ⟨i + 1, false, by go_num, rfl, by omega, HN3, trivial⟩
                      case measure => simp [intOf]; omega
                  · have hdi : decide ((i : Int) < (n : Int)) = false := by simp; omega
                    have hii : ¬ (i : Int) < (n : Int) := by omega
                    have hin : i = n := by omega
                    have hcv0 : (cv L a b || cv L a c || cv L b c) = false := by
                      have := none_cv2 (i := i) HPK.out.rise3 hab hbc (by rw [HN.out]; omega) HALLI.out
                      rw [hin, ← HN.out, List.take_length] at this
                      exact this
                    have HCF : Hid ((cv L a b || cv L a c || cv L b c) = false) := hcv0
                    have HE1 : Hid ((wr.alloc (.cells #[] 45)).ownsRow tb 45 1 (.slice (some ⟨wr.heap.size, 0, none⟩) 0 0) 0 []) := ⟨rfl, .inr ⟨wr.heap.size, 0, #[], rfl, by have := HWS.out; omega, heap_alloc_new wr _, Nat.le_refl _, by unfold maxLen; omega, rfl, rfl⟩⟩
                    have HS1 : Hid (SrcC (wr.alloc (.cells #[] 45)) (.slice ua n uc) n news) := HSRC.out _ (HBT.out.trans ((balloc wr _).mono HBT.out.size))
                    have HBB : Hid (∀ W, (wr.alloc (.cells #[] 45)).grownBy W (some wr.heap.size) → Below wr.heap.size wr W ∧ ORow W tb (.slice (some ⟨tb, 0, none⟩) 3 3) [a, b, c]) := fun W hg => ⟨(balloc wr (.cells #[] 45)).grown hg (by simp) (fun k hk => by cases hk; exact Nat.le_refl _), by
                      obtain ⟨h0, hn | ⟨g, cap, cur, e1, hgb, k1, k2⟩⟩ := HOT.out
                      · exact ⟨h0, .inl hn⟩
                      · cases e1
                        exact ⟨h0, .inr ⟨tb, 3, cur, rfl, hgb, ((hg.block tb (by have := HWS.out; simp; omega) (fun e => by have := HWS.out; simp at e; omega)).trans ((balloc wr (.cells #[] 45)).block tb (by have := HWS.out; omega))).trans k1, k2⟩⟩⟩
                    have CR := HIH.out a b c
                    obtain ⟨q1, q2, q3, q4⟩ := HI45.out
                    clear HALLI HOKI hcv0
                    go_wp2_with (first
                      | (at_builtin; refine wpList_append_srcC _ rfl _ _ 22 rfl tb 45 i45 (.slice none 0 0) 24 undR q1 q2 q3 q4 rfl _ 0 [] rfl HE1.out _ n news rfl HS1.out HONE.out ?c3 ?c4 ?c5 ?_)
                      | go_in)
                    case c3 => unfold maxLen; omega
                    case c4 => omega
                    case c5 => have := HWS.out; simp; omega
                    intro v1 w1 hown hgr
                    try rw [Nat.zero_add] at hown
                    try rw [List.nil_append] at hown
                    obtain ⟨hB1, hT1⟩ := HBB.out w1 hgr
                    have hsz1 : tb + 1 ≤ w1.heap.size := by have := hB1.size; have := HWS.out; omega
                    have HOWN : Hid (w1.ownsRow tb 45 1 v1 n news) := hown
                    have HB1 : Hid (Below wr.heap.size wr w1) := hB1
                    have HT1 : Hid (ORow w1 tb (.slice (some ⟨tb, 0, none⟩) 3 3) [a, b, c]) := hT1
                    clear hgr hB1 hT1 HE1 HS1 HBB
                    go_wp2_with (first
                      | (at_builtin; refine wpList_append_own _ rfl _ _ 22 rfl tb 45 i45 (.slice none 0 0) 1 24 undR q1 q2 q3 q4 rfl (by decide) _ _ _ rfl (hown.alloc _) ⟨w1.heap.size, 0, none⟩ 1 1 [.slice (some ⟨tb, 0, none⟩) 3 3] rfl rfl ?d1 ?d2 ?d3 ?d4 ?d5 ?_)
                      | go_in)
                    case d1 =>
                      intro j u hj
                      match j, hj with
                      | 0, hj => simp at hj; subst hj; simp [Addr.add]
                    case d2 => intro u hu; simp at hu; subst hu; rfl
                    case d3 => unfold maxLen; omega
                    case d4 => omega
                    case d5 => simp; omega
                    intro v2 w2 hown2 hgr2 _
                    have bal := balloc w1 (.cells #[.slice (some ⟨tb, 0, none⟩) 3 3] 45)
                    have hOM : OM w w2 tb v2 (L ++ [[a, b, c]]) := by
                      refine OM.more (wa := w1.alloc (.cells #[.slice (some ⟨tb, 0, none⟩) 3 3] 45)) (v := v1) (vals := news) (by rw [HN.out]; exact own_keep HOWN.out fun b _ hb => bal.block b hb) (fun i u l e1 e2 => .inr (HNEW.out i u l e1 e2)) (HT1.out.below bal) (by rw [HN.out]; exact hown2) hgr2
                    have hB2 : Below tb w1 w2 := (bal.mono (by omega)).grown hgr2 (by simp; omega) fun k hk => (HOWN.out.lt k hk).1
                    have HBW2 : Hid (Below w.heap.size w w2) := (HBT.out.trans (HB1.out.mono HBT.out.size)).trans (hB2.mono (by omega))
                    have CR2 := CR v2 w2 hab hbc hlc HCF.out HBE.out (hOM.rw HBW2.out)
                    obtain ⟨xa, xc, rfl⟩ := hOM.form
                    have hl3 : (L ++ [[a, b, c]]).length = n + 1 := by rw [List.length_append, HN.out]; rfl
                    rw [hl3] at CR2 ⊢
                    have h0ab : cv L a b = false := by have := HCF.out; rw [Bool.or_eq_false_iff, Bool.or_eq_false_iff] at this; exact this.1.1
                    have hgz : gz v k L a b c = gr v k (L ++ [[a, b, c]]) := by
                      have := HCF.out
                      rw [Bool.or_eq_false_iff, Bool.or_eq_false_iff] at this
                      unfold gz
                      rw [this.1.2, this.2, if_neg (by simp)]
                    cases hgrr : gr v k (L ++ [[a, b, c]]) with
                    | some R =>
                      have CR3 : Hid (Calls Try.prog 44 #[.int .i64 (v : Int), .slice xa (n + 1) xc, .int .i64 (a : Int), .int .i64 (b : Int), .int .i64 ((c : Int) + 1)] w2 fun e w' => ∃ x, e = .returned (.tuple #[x, .bool true]) ∧ Rw w' x (toZ R) ∧ Below w2.heap.size w2 w') := by
                        refine CR2.mono ?_
                        rintro e w' (⟨R', x, e1, rfl, hR, hb⟩ | ⟨e1, _⟩)
                        · rw [hgrr] at e1
                          cases e1
                          exact ⟨x, rfl, hR, hb⟩
                        · rw [hgrr] at e1; cases e1
                      have HR : Hid (gr v (k + 1) L = some R) := by show _ = _; rw [HZ.out h0ab, fz_some hlc (hgz.trans hgrr)]
                      clear CR CR2 hgz hgrr h0ab hOM hown hown2 hgr2 bal hB2
                      go_wp2_with (go_at_call 44; refine CR3.out.mono ?_; rintro e w3 ⟨x, rfl, hR, hb⟩; clear CR3)
                      exact bodyPost_ret (v := .tuple #[x, .bool true]) (by simp [results, Try.results44, go_sem]) rfl (.inl ⟨R, x, HR.out, rfl, hR, HBW2.out.trans (hb.mono HBW2.out.size)⟩)
                    | none =>
                      have CR3 : Hid (Calls Try.prog 44 #[.int .i64 (v : Int), .slice xa (n + 1) xc, .int .i64 (a : Int), .int .i64 (b : Int), .int .i64 ((c : Int) + 1)] w2 fun e w' => e = .returned (.tuple #[.slice none 0 0, .bool false]) ∧ Below w2.heap.size w2 w') := by
                        refine CR2.mono ?_
                        rintro e w' (⟨R', x, e1, _⟩ | ⟨_, rfl, hb⟩)
                        · rw [hgrr] at e1; cases e1
                        · exact ⟨rfl, hb⟩
                      have HZ2 : Hid (cv L a b = false → gr v (k + 1) L = fz (gz v k L a b) (v - (c + 1)) (c + 1)) := fun h0 => by rw [HZ.out h0, fz_none hlc (hgz.trans hgrr)]
                      clear CR CR2 hgz hgrr h0ab hOM hown hown2 hgr2 bal hB2
                      go_wp2_with (go_at_call 44; refine CR3.out.mono ?_; rintro e w3 ⟨rfl, hb⟩; clear CR3)
                      go_roundw
                      case rel => exact ⟨c + 1, by go_num, by omega, by omega, HZ2, HBW2.out.trans (hb.mono HBW2.out.size)⟩
                      case measure => simp [intOf]; omega
            · have hdc : decide ((c : Int) < (v : Int)) = false := by simp; omega
              have hci : ¬ (c : Int) < (v : Int) := by omega
              have HZE : Hid (cv L a b = false → gr v (k + 1) L = none) := fun h0 => by rw [HZ.out h0, fz_end (by omega)]
              have HBW : Hid (Below w.heap.size w wr) := hB
              have HH0 : Hid (cv (L.take 0) a b = false) := rfl
              have HTA : Hid (∀ q, cv (L.take n) a b = q → cv L a b = q) := fun q e => by rw [← e, ← HN.out, List.take_length]
              clear hB HZ
              go_wp2
              go_loopw [19, 20] (fun hv iv wr => ∃ (i : Nat) (q : Bool), iv = .int .i64 (i : Int) ∧ hv = .bool q ∧ i ≤ n ∧ Hid (cv (L.take i) a b = q) ∧ Below w.heap.size w wr) (fun _ iv _ => (n - intOf iv).toNat)
              case atStart => exact ⟨0, false, rfl, rfl, by omega, HH0, HBW.out⟩
              case round =>
                clear HH0 HBW
                obtain ⟨i, q, rfl, rfl, hi, HQ, hB⟩ := hrel
                by_cases hli : i < n
                · have hdi : decide ((i : Int) < (n : Int)) = true := by simp; omega
                  have hii : (i : Int) < (n : Int) := by omega
                  have hni : ¬ (n : Int) ≤ (i : Int) := by omega
                  obtain ⟨d, bb, off, ra, rc, hdi', h3, rfl, hrow⟩ := HROW.out i hli
                  obtain ⟨r0, r1⟩ := hrow wr hB
                  have CA : Hid (Calls Try.prog 31 #[.slice ra 3 rc, .int .i64 (a : Int)] wr fun e w' => e = .returned (.bool (d.contains a)) ∧ w' = wr) := HLI.out d a _ wr r1 h3
                  have CB : Hid (Calls Try.prog 31 #[.slice ra 3 rc, .int .i64 (b : Int)] wr fun e w' => e = .returned (.bool (d.contains b)) ∧ w' = wr) := HLI.out d b _ wr r1 h3
                  have hst := cv_take hdi' a b
                  rw [HQ.out] at hst
                  have HST : Hid (cv (L.take (i + 1)) a b = (q || (d.contains a && d.contains b))) := hst
                  clear hrow r1 hdi' hst HQ
                  generalize d.contains a = da at *
                  generalize d.contains b = db at *
                  have key : ∀ q', q' = (q || (da && db)) → Hid (cv (L.take (i + 1)) a b = q') := fun q' e => HST.out.trans e.symm
                  cases q <;> cases da <;> cases db
                  all_goals
                    go_wp2_with (first
                      | (go_at_call 31; refine CA.out.mono ?_; rintro e w5 ⟨rfl, hw⟩; replace hw := hw.symm; subst hw; clear CA)
                      | (go_at_call 31; refine CB.out.mono ?_; rintro e w5 ⟨rfl, hw⟩; replace hw := hw.symm; subst hw; clear CB))
                    go_roundw
                    case rel => exact ⟨i + 1, _, by go_num, rfl, by omega, key _ rfl, hB⟩
                    case measure => simp [intOf]; omega
                · have hdi : decide ((i : Int) < (n : Int)) = false := by simp; omega
                  have hii : ¬ (i : Int) < (n : Int) := by omega
                  obtain rfl : i = n := by omega
                  have hq := HTA.out q HQ.out
                  cases q with
                  | false =>
                    have HFIN : Hid (GnP v (k + 1) L w (.returned (.tuple #[.slice none 0 0, .bool false])) wr) := .inr ⟨HZE.out hq, rfl, hB⟩
                    clear hq HQ
                    go_wp2
                    exact bodyPost_ret (v := .tuple #[.slice none 0 0, .bool false]) (by simp [results, Try.results44, go_sem]) rfl HFIN.out
                  | true =>
                    have HB2 : Hid (Bef v L a (b + 1)) := HBE.out.next hq
                    have HC2 : Hid (b + 2 = b + 1 + 1 ∨ cv L a (b + 1) = true) := .inl rfl
                    clear hq HQ
                    go_wp2
                    go_roundw
                    case rel => exact ⟨b + 1, b + 2, by go_num, by go_num, by omega, by omega, by omega, by omega, HB2, HC2, hB⟩
                    case measure => simp [intOf]; omega
        · have hdb : decide ((b : Int) < (v : Int)) = false := by simp; omega
          have hbi : ¬ (b : Int) < (v : Int) := by omega
          have HB2 : Hid (Bef v L (a + 1) (a + 2)) := HBE.out.row (by omega)
          have HC2 : Hid (a + 3 = a + 2 + 1 ∨ cv L (a + 1) (a + 2) = true) := .inl rfl
          clear HBE HC0
          go_wp2
          go_roundw
          case rel => exact ⟨a + 1, a + 2, a + 3, by go_num, by go_num, by go_num, by omega, by omega, by omega, by omega, by omega, HB2, HC2, hB⟩
          case measure => simp [intOf]; omega
    · exact (HFU.out (HBE.out.all (by omega))).elim
theorem grown_any (v : Nat) (h1 : 1 ≤ v) (h9 : v ≤ 9) : ∀ (k : Nat) (L : List (List Nat)) (u : Value) (w : World) (a b c : Nat), Rw w u (toZ L) → Pk v L → 12 ≤ L.length + k → Bef v L a b → a < b → b < c → (c = b + 1 ∨ cv L a b = true) → a ≤ v → b ≤ v + 1 → c ≤ v + 2 → Calls Try.prog 44 #[.int .i64 (v : Int), u, .int .i64 (a : Int), .int .i64 (b : Int), .int .i64 (c : Int)] w (GnP v k L w)
  | 0, L, u, w, a, b, c, hu, hp, h12, _, _, _, _, _, _, _ => by
    refine grown_full v 0 h9 L u w hu hp (hp.full.2 ?_) a b c
    have := hp.le
    have := nine_le h9
    omega
  | k + 1, L, u, w, a, b, c, hu, hp, h12, hb, g1, g2, g3, g4, g5, g6 => by
    by_cases hf : Full v L
    · exact grown_full v (k + 1) h9 L u w hu hp hf a b c
    · exact grown_go v k h1 h9 L u w hu hp hf h12 a b c hb g1 g2 g3 g4 g5 g6 (grown_any v h1 h9 k)

end Go.Proofs.Ytdeofjmgjhfkcaa

namespace Go.Proofs.Ytdeofjmgjhfkcaa
open Go.RowKit Go.Maps

/-- What GrowOf tells of blocks without fault. -/
def GwT (n : Nat) (L : List (List Nat)) (p f : Int) (Z : List (List Nat)) : Prop := (gr n 12 L = none ∧ f = 4 ∧ p = 0 ∧ Z = []) ∨ (∃ R, gr n 12 L = some R ∧ f = 0 ∧ p = n ∧ Srtd R Z)
def GwP (n : Nat) (L : List (List Nat)) (w : World) (e : Ending) (w' : World) : Prop := ∃ x Z p f, e = .returned (.tuple #[.agg #[.int .i64 p, x], .int .i64 f]) ∧ GwT n L p f Z ∧ Rw w' x (toZ Z) ∧ Below w.heap.size w w'
theorem rise_map {v : Nat} {L : List (List Nat)} (h : Rise3 v L) : L.map s3 = L := by
  refine Eq.trans (List.map_congr_left fun b hb => ?_) (List.map_id _)
  obtain ⟨x, y, z, rfl, h1, h2, _⟩ := h b hb
  exact s3_rise h1 h2
theorem Ordd.rise {v : Nat} {L Z : List (List Nat)} (h : Ordd L Z) (hR : Rise3 v L) : Srtd L Z := h.srtd (by rw [rise_map hR])
set_option maxRecDepth 100000 in
set_option maxHeartbeats 8000000 in
theorem GrowOf_in (n : Nat) (h1 : 1 ≤ n) (h9 : n ≤ 9) (L : List (List Nat)) (u : Value) (w : World) (hp : Pk n L) (hu : Rw w u (toZ L)) : Calls Try.prog 22 #[.int .i64 (n : Int), u] w (GwP n L w) := by
  have hr0 := heap_alloc_new w (.cells #[.int .i64 0, .slice none 0 0] 24)
  have HB0 : Hid (Below w.heap.size w (w.alloc (.cells #[.int .i64 0, .slice none 0 0] 24))) := balloc w _
  have CG := grown_any n h1 h9 12 L u (w.alloc (.cells #[.int .i64 0, .slice none 0 0] 24)) 0 1 2 (hu.below HB0.out) hp (by omega) (fun p q hp hq hb => by omega) (by omega) (by omega) (.inl rfl) (by omega) (by omega) (by omega)
  have HT : Hid (∀ W, Below (w.alloc (.cells #[.int .i64 0, .slice none 0 0] 24)).heap.size (w.alloc (.cells #[.int .i64 0, .slice none 0 0] 24)) W → W.heap[w.heap.size]? = some (.cells #[.int .i64 0, .slice none 0 0] 24 (0, 0)) ∧ Below w.heap.size w W) := fun W h => ⟨(h.block _ (by simp)).trans hr0, Below.next HB0.out h⟩
  obtain ⟨ua, uc, rfl, _⟩ := drow_of hu
  have HSZ : Hid ((w.alloc (.cells #[.int .i64 0, .slice none 0 0] 24)).heap.size = w.heap.size + 1) := by show _ = _; simp
  obtain ⟨w0, Hw0⟩ : ∃ w0, Hid (w0 = w.alloc (.cells #[.int .i64 0, .slice none 0 0] 24)) := ⟨_, rfl⟩
  rw [← Hw0.out] at CG HT HSZ
  generalize L.length = ll at *
  cases hgr : gr n 12 L with
  | none =>
    have HC : Hid (Calls Try.prog 44 #[.int .i64 (n : Int), .slice ua ll uc, .int .i64 0, .int .i64 1, .int .i64 2] w0 fun e w' => e = .returned (.tuple #[.slice none 0 0, .bool false]) ∧ Below w0.heap.size w0 w') := by
      refine CG.mono ?_
      rintro e w' (⟨R', x, e1, _⟩ | ⟨_, rfl, hb⟩)
      · rw [hgr] at e1; cases e1
      · exact ⟨rfl, hb⟩
    have HG : Hid (GwT n L 0 4 []) := .inl ⟨hgr, rfl, rfl, rfl⟩
    clear CG hgr hu hp hr0
    go_enter Try.func22, Try.ntmps22
    go_wp2_with (go_at_call 44; rw [← Hw0.out]; refine HC.out.mono ?_; rintro e w1 ⟨rfl, hb⟩; clear HC; have H8 : Hid (_ ∧ _) := HT.out w1 hb; have H7 : Hid (_ ∧ _) := res_none H8.out.1 H8.out.2 (Nat.le_refl _); have hr := H8.out.1; have z0 := frozen_of_row _ _ 0 _ _ hr; have z1 := frozen_of_row _ _ 1 _ _ hr; have y0 := cell_of_row _ _ 0 _ _ _ hr; have y1 := cell_of_row _ _ 1 _ _ _ hr; clear hr hb)
    first
      | exact post_d2 4 5 rfl rfl H8.out.1 rfl rfl ⟨_, [], 0, 4, rfl, HG.out, rw_nil0 _, H8.out.2⟩
      | exact post_d2 4 5 rfl rfl H7.out.1 rfl rfl ⟨_, [], 0, 4, rfl, HG.out, rw_nil0 _, H7.out.2⟩
  | some R =>
    have HC : Hid (Calls Try.prog 44 #[.int .i64 (n : Int), .slice ua ll uc, .int .i64 0, .int .i64 1, .int .i64 2] w0 fun e w' => ∃ x, e = .returned (.tuple #[x, .bool true]) ∧ Rw w' x (toZ R) ∧ Below w0.heap.size w0 w') := by
      refine CG.mono ?_
      rintro e w' (⟨R', x, e1, rfl, hR, hb⟩ | ⟨e1, _⟩)
      · rw [hgr] at e1
        cases e1
        exact ⟨x, rfl, hR, hb⟩
      · rw [hgr] at e1; cases e1
    obtain ⟨pR, _, _⟩ := gr_sys hp hgr
    have HIO : Hid (∀ (W : World) (x : Value), Rw W x (toZ R) → Calls Try.prog 28 #[x] W fun e w' => ∃ y Z, e = .returned y ∧ Srtd R Z ∧ OR w' W.heap.size y Z ∧ Below W.heap.size W w') := fun W x hx => by
      refine (InOrder_any R x W hx pR.three (by have := pR.few h9; omega)).mono ?_
      rintro e w' ⟨y, Z, rfl, hO, hR, hb⟩
      exact ⟨y, Z, rfl, hO.rise pR.rise3, hR, hb⟩
    have HG : Hid (∀ Z, Srtd R Z → GwT n L n 0 Z) := fun Z hZ => .inr ⟨R, hgr, rfl, rfl, hZ⟩
    clear CG hgr hu hp hr0 pR
    go_enter Try.func22, Try.ntmps22
    go_wp2_with (first
      | (go_at_call 44; rw [← Hw0.out]; refine HC.out.mono ?_; rintro e w1 ⟨x, rfl, hR, hb⟩; clear HC; obtain ⟨xa, xc, rfl⟩ := rw_form hR; have HR1 : Hid (Rw w1 (.slice xa R.length xc) (toZ R)) := hR; have H8 : Hid (_ ∧ _) := HT.out w1 hb; have HS1 : Hid (w.heap.size < w1.heap.size) := (by have := hb.size; have := HSZ.out; show _ < _; omega); clear hb hR)
      | (go_at_call 28; refine (HIO.out w1 _ HR1.out).mono ?_; rintro e w2 ⟨y, Z, rfl, hS, hO, hb⟩; clear HIO; have hr : w2.heap[w.heap.size]? = _ := (hb.block _ HS1.out).trans H8.out.1; obtain ⟨ya, yc, rfl⟩ := hO.cap; have HS5 : Hid (Srtd R Z) := hS; have H7 : Hid (_ ∧ _ ∧ _) := res_put (p := (n : Int)) hr (Below.next H8.out.2 hb) (Nat.le_refl _) HS1.out hO; have z0 := frozen_of_row _ _ 0 _ _ hr; have z1 := frozen_of_row _ _ 1 _ _ hr; have y0 := cell_of_row _ _ 0 _ _ _ hr; have y1 := cell_of_row _ _ 1 _ _ _ hr; generalize Z.length = zl at *; clear hr hb hO hS))
    exact post_d2 4 5 rfl rfl H7.out.1 rfl rfl ⟨_, Z, _, 0, rfl, HG.out Z HS5.out, H7.out.2.1, H7.out.2.2⟩
set_option maxRecDepth 100000 in
set_option maxHeartbeats 8000000 in
theorem Grows_bad (v f : Int) (hf : f ≠ 0) (n : Nat) (u : Value) (w : World) (hu : ∃ a c, u = .slice a n c)
    (C20 : Hid (∀ W, Below w.heap.size w W → Calls Try.prog 20 #[.int .i64 v, u] W fun e w' => e = .returned (.int .i64 f) ∧ Below W.heap.size W w'))
    (C21 : Hid (∀ W, Below w.heap.size w W → Calls Try.prog 21 #[.int .i64 v, u] W fun e w' => ∃ xa xc, e = .returned (.tuple #[.agg #[.int .i64 0, .slice xa 0 xc], .int .i64 f]) ∧ Rw w' (.slice xa 0 xc) (toZ []) ∧ Below W.heap.size W w')) :
    Calls Try.prog 6 #[.int .i64 v, u] w fun e w' => e = .returned (.bool true) ∧ Below w.heap.size w w' := by
  have HSA : Hid (∀ (x : Value) (W : World), Rw W x (toZ []) → Calls Try.prog 11 #[.agg #[.int .i64 0, x], .agg #[.int .i64 0, .slice none 0 0]] W fun e w' => e = .returned (.bool true) ∧ Below W.heap.size W w') := fun x W h => same_any 0 [] x _ W (by simp [toZ]) (by simp [toZ]) h (rw_nil0 W)
  have HDB : Hid (∀ (p : Int) (y : Value) (W0 W : World), Below (W0.alloc (.cells #[.int .i64 p, y] 24)).heap.size (W0.alloc (.cells #[.int .i64 p, y] 24)) W → W.cell? ⟨W0.heap.size, 0, none⟩ = some (.int .i64 p) ∧ W.cell? ⟨W0.heap.size, 1, none⟩ = some y) := fun p y W0 W h => des_box p y W0 W h
  obtain ⟨ua, uc, rfl⟩ := hu
  have g1 : (f != 0) = true := by simp; omega
  have g2 : ¬ f = 0 := hf
  have g3 : (f == f) = true := by simp
  go_enter Try.func6, Try.ntmps6
  go_wp2_with (first
    | (go_at_call 20; refine (C20.out _ (Below.refl _ _)).mono ?_; rintro e w1 ⟨rfl, hb⟩; clear C20; have HB1 : Hid (Below w.heap.size w w1) := hb; clear hb)
    | (go_at_call 21; refine (C21.out _ HB1.out).mono ?_; rintro e w2 ⟨xa, xc, rfl, hR, hb⟩; clear C21; have bb := balloc w2 (.cells #[.int .i64 0, .slice xa 0 xc] 24); have HB2 : Hid (Below w.heap.size w (w2.alloc (.cells #[.int .i64 0, .slice xa 0 xc] 24))) := Below.next HB1.out (Below.next hb bb); have HR2 : Hid (Rw (w2.alloc (.cells #[.int .i64 0, .slice xa 0 xc] 24)) (.slice xa 0 xc) (toZ [])) := hR.below bb; obtain ⟨k0, k1⟩ := HDB.out 0 (.slice xa 0 xc) w2 _ (Below.refl _ _); clear hb bb hR)
    | (go_at_call 11; refine (HSA.out _ _ HR2.out).mono ?_; rintro e w3 ⟨rfl, hb⟩; clear HSA HR2 k0 k1; have HB3 : Hid (Below w.heap.size w w3) := Below.next HB2.out hb; clear hb))
  go_ret
  exact ⟨rfl, HB3.out⟩
set_option maxRecDepth 100000 in
set_option maxHeartbeats 8000000 in
theorem Grows_good (v p f : Int) (nz : Nat) (Z : List (List Nat)) (h1 : (toZ Z).length ≤ maxLen) (h2 : ∀ l ∈ toZ Z, l.length ≤ maxLen) (n : Nat) (u : Value) (w : World) (hu : ∃ a c, u = .slice a n c)
    (C20 : Hid (∀ W, Below w.heap.size w W → Calls Try.prog 20 #[.int .i64 v, u] W fun e w' => e = .returned (.int .i64 0) ∧ Below W.heap.size W w'))
    (C21 : Hid (∀ W, Below w.heap.size w W → Calls Try.prog 21 #[.int .i64 v, u] W fun e w' => ∃ xa xc, e = .returned (.tuple #[.agg #[.int .i64 p, .slice xa nz xc], .int .i64 f]) ∧ Rw w' (.slice xa nz xc) (toZ Z) ∧ Below W.heap.size W w'))
    (C22 : Hid (∀ W, Below w.heap.size w W → Calls Try.prog 22 #[.int .i64 v, u] W fun e w' => ∃ xa xc, e = .returned (.tuple #[.agg #[.int .i64 p, .slice xa nz xc], .int .i64 f]) ∧ Rw w' (.slice xa nz xc) (toZ Z) ∧ Below W.heap.size W w')) :
    Calls Try.prog 6 #[.int .i64 v, u] w fun e w' => e = .returned (.bool true) ∧ Below w.heap.size w w' := by
  have HSA : Hid (∀ (x y : Value) (W : World), Rw W x (toZ Z) → Rw W y (toZ Z) → Calls Try.prog 11 #[.agg #[.int .i64 p, x], .agg #[.int .i64 p, y]] W fun e w' => e = .returned (.bool true) ∧ Below W.heap.size W w') := fun x y W h h' => same_any p Z x y W h1 h2 h h'
  have HDB : Hid (∀ (p : Int) (y : Value) (W0 W : World), Below (W0.alloc (.cells #[.int .i64 p, y] 24)).heap.size (W0.alloc (.cells #[.int .i64 p, y] 24)) W → W.cell? ⟨W0.heap.size, 0, none⟩ = some (.int .i64 p) ∧ W.cell? ⟨W0.heap.size, 1, none⟩ = some y) := fun p y W0 W h => des_box p y W0 W h
  obtain ⟨ua, uc, rfl⟩ := hu
  have g3 : (f == f) = true := by simp
  go_enter Try.func6, Try.ntmps6
  go_wp2_with (first
    | (go_at_call 20; refine (C20.out _ (Below.refl _ _)).mono ?_; rintro e w1 ⟨rfl, hb⟩; clear C20; have HB1 : Hid (Below w.heap.size w w1) := hb; clear hb)
    | (go_at_call 21; refine (C21.out _ HB1.out).mono ?_; rintro e w2 ⟨xa, xc, rfl, hR, hb⟩; clear C21; have bb := balloc w2 (.cells #[.int .i64 p, .slice xa nz xc] 24); have HB2 : Hid (Below w.heap.size w (w2.alloc (.cells #[.int .i64 p, .slice xa nz xc] 24))) := Below.next HB1.out (Below.next hb bb); have HR2 : Hid (Rw (w2.alloc (.cells #[.int .i64 p, .slice xa nz xc] 24)) (.slice xa nz xc) (toZ Z)) := hR.below bb; have HM2 : Hid (∀ W, Below (w2.alloc (.cells #[.int .i64 p, .slice xa nz xc] 24)).heap.size (w2.alloc (.cells #[.int .i64 p, .slice xa nz xc] 24)) W → W.cell? ⟨w2.heap.size, 0, none⟩ = some (.int .i64 p) ∧ W.cell? ⟨w2.heap.size, 1, none⟩ = some (.slice xa nz xc)) := fun W h => HDB.out _ _ _ W h; clear hb bb hR)
    | (go_at_call 22; refine (C22.out _ HB2.out).mono ?_; rintro e w3 ⟨ya, yc, rfl, hR, hb⟩; clear C22; have bb := balloc w3 (.cells #[.int .i64 p, .slice ya nz yc] 24); have HB3 : Hid (Below w.heap.size w (w3.alloc (.cells #[.int .i64 p, .slice ya nz yc] 24))) := Below.next HB2.out (Below.next hb bb); have HR3 : Hid (Rw (w3.alloc (.cells #[.int .i64 p, .slice ya nz yc] 24)) (.slice xa nz xc) (toZ Z) ∧ Rw (w3.alloc (.cells #[.int .i64 p, .slice ya nz yc] 24)) (.slice ya nz yc) (toZ Z)) := ⟨HR2.out.below (Below.next hb bb), hR.below bb⟩; obtain ⟨k0, k1⟩ := HM2.out _ (Below.next hb bb); obtain ⟨k2, k3⟩ := HDB.out p (.slice ya nz yc) w3 _ (Below.refl _ _); clear hb bb hR HM2)
    | (go_at_call 11; refine (HSA.out _ _ _ HR3.out.1 HR3.out.2).mono ?_; rintro e w4 ⟨rfl, hb⟩; clear HSA HR3 k0 k1 k2 k3; have HB4 : Hid (Below w.heap.size w w4) := Below.next HB3.out hb; clear hb))
  go_ret
  exact ⟨rfl, HB4.out⟩
theorem gw_sh {n : Nat} {L Z : List (List Nat)} {p f : Int} (h9 : n ≤ 9) (hp : Pk n L) (h : GwT n L p f Z) : (toZ Z).length ≤ maxLen ∧ ∀ l ∈ toZ Z, l.length ≤ maxLen := by
  rcases h with ⟨_, _, _, rfl⟩ | ⟨R, hR, _, _, hS⟩
  · exact ⟨by simp [toZ], by simp [toZ]⟩
  · obtain ⟨pR, _, _⟩ := gr_sys hp hR
    exact srt_short pR.three hS (by have := pR.few h9; omega)
theorem GwT.one {n : Nat} {L Z Z' : List (List Nat)} {p f p' f' : Int} (hp : Pk n L) (h : GwT n L p f Z) (h' : GwT n L p' f' Z') : p = p' ∧ f = f' ∧ Z = Z' := by
  rcases h with ⟨e, rfl, rfl, rfl⟩ | ⟨R, e, rfl, rfl, hS⟩ <;> rcases h' with ⟨e', rfl, rfl, rfl⟩ | ⟨R', e', rfl, rfl, hS'⟩
  · exact ⟨rfl, rfl, rfl⟩
  · rw [e] at e'; cases e'
  · rw [e] at e'; cases e'
  · rw [e] at e'
    cases e'
    obtain ⟨pR, _, _⟩ := gr_sys hp e
    exact ⟨rfl, rfl, Srtd.one pR.three hS hS'⟩
theorem Grows_law (v : Int) (ls : List (List Int)) (u : Value) (w : World) (hu : Rw w u ls) (hll : ∀ l ∈ ls, l.length ≤ maxLen) (hl : ls.length ≤ maxLen) : Calls Try.prog 6 #[.int .i64 v, u] w fun e w' => e = .returned (.bool true) ∧ Below w.heap.size w w' := by
  have hu' : ∃ a c, u = .slice a ls.length c := by
    obtain ⟨a, c, e, _⟩ := hu
    exact ⟨a, c, e⟩
  have ex : ∃ f, GfT v ls f := by
    by_cases h1 : v < 1 ∨ 9 < v
    · exact ⟨1, .inl ⟨rfl, h1⟩⟩
    · by_cases h2 : 200 < ls.length
      · exact ⟨3, .inr (.inl ⟨rfl, by omega, by omega, h2⟩)⟩
      · obtain ⟨n, rfl⟩ : ∃ n : Nat, v = n := ⟨v.toNat, by omega⟩
        by_cases h3 : ∀ l ∈ ls, tF (n : Int) l = 0
        · obtain ⟨L, rfl, hR⟩ := all_rise h3
          by_cases hp : Pk n L
          · exact ⟨0, .inr (.inr (.inr ⟨by omega, n, L, rfl, by omega, by omega, rfl, hR, .inr ⟨hp, rfl⟩⟩))⟩
          · exact ⟨6, .inr (.inr (.inr ⟨by omega, n, L, rfl, by omega, by omega, rfl, hR, .inl ⟨hp, rfl⟩⟩))⟩
        · have h4 : ∃ i : Nat, ∃ l, ls[i]? = some l ∧ tF (n : Int) l ≠ 0 := by
            obtain ⟨l, hm, hn⟩ : ∃ l, l ∈ ls ∧ tF (n : Int) l ≠ 0 := Classical.byContradiction fun h => h3 fun l hl => Classical.byContradiction fun hn => h ⟨l, hl, hn⟩
            obtain ⟨i, hi⟩ := List.getElem?_of_mem hm
            exact ⟨i, l, hi, hn⟩
          obtain ⟨i, ⟨l, hi, hn⟩, hmin⟩ := least_ex h4
          exact ⟨_, .inr (.inr (.inl ⟨by omega, by omega, by omega, i, l, hi, fun j l' hj he => Classical.byContradiction fun hne => hmin j hj ⟨l', he, hne⟩, rfl, hn⟩))⟩
  obtain ⟨f, hf⟩ := ex
  have C20 : Hid (∀ W, Below w.heap.size w W → Calls Try.prog 20 #[.int .i64 v, u] W fun e w' => e = .returned (.int .i64 f) ∧ Below W.heap.size W w') := fun W b => by
    refine (GrowFault_any v ls u W (hu.below b) hl hll).mono ?_
    rintro e w' ⟨⟨g, rfl, hg⟩, hb⟩
    rw [hg.one hf]
    exact ⟨rfl, hb⟩
  by_cases h0 : f = 0
  · subst h0
    have hok : ∃ (n : Nat) (L : List (List Nat)), v = n ∧ 1 ≤ n ∧ n ≤ 9 ∧ ls = toZ L ∧ Pk n L := by
      rcases hf with ⟨h, _⟩ | ⟨h, _⟩ | ⟨_, _, _, i, l, _, _, h, hn⟩ | ⟨_, n, L, rfl, g1, g2, rfl, _, ⟨_, h⟩ | ⟨hp, _⟩⟩
      · omega
      · omega
      · omega
      · omega
      · exact ⟨n, L, rfl, g1, g2, rfl, hp⟩
    obtain ⟨n, L, rfl, g1, g2, rfl, hp⟩ := hok
    by_cases hx : ∃ p f Z, GwT n L p f Z
    · obtain ⟨p, f, Z, hG⟩ := hx
      obtain ⟨s1, s2⟩ := gw_sh g2 hp hG
      refine Grows_good n p f Z.length Z s1 s2 _ u w hu' C20 (fun W b => ?_) (fun W b => ?_)
      · refine (Grow_any n (toZ L) u W (hu.below b) hl hll).mono ?_
        rintro e w' ⟨x, Z', p', f', rfl, hT, hR, hb⟩
        have hT' : GwT n L p' f' Z' := by
          rcases hT with ⟨k1, k2, _⟩ | ⟨n', L', e1, e2, _, _, _, _, k⟩
          · exact (k2 (k1.one hf)).elim
          · have e3 : n' = n := by omega
            subst e3
            have e4 := toZ_one e2
            subst e4
            exact k
        obtain ⟨rfl, rfl, rfl⟩ := hG.one hp hT'
        obtain ⟨xa, xc, rfl⟩ := rw_form hR
        exact ⟨xa, xc, rfl, hR, hb⟩
      · refine (GrowOf_in n g1 g2 L u W hp (hu.below b)).mono ?_
        rintro e w' ⟨x, Z', p', f', rfl, hT, hR, hb⟩
        obtain ⟨rfl, rfl, rfl⟩ := hG.one hp hT
        obtain ⟨xa, xc, rfl⟩ := rw_form hR
        exact ⟨xa, xc, rfl, hR, hb⟩
    · refine Grows_good n 0 0 0 [] (by simp [toZ]) (by simp [toZ]) _ u w hu' C20 (fun W b => ?_) (fun W b => ?_)
      · refine (Grow_any n (toZ L) u W (hu.below b) hl hll).mono ?_
        rintro e w' ⟨x, Z', p', f', rfl, hT, hR, hb⟩
        rcases hT with ⟨k1, k2, _⟩ | ⟨n', L', e1, e2, _, _, _, _, k⟩
        · exact (k2 (k1.one hf)).elim
        · have e3 : n' = n := by omega
          subst e3
          have e4 := toZ_one e2
          subst e4
          exact (hx ⟨p', f', Z', k⟩).elim
      · refine (GrowOf_in n g1 g2 L u W hp (hu.below b)).mono ?_
        rintro e w' ⟨x, Z', p', f', rfl, hT, hR, hb⟩
        exact (hx ⟨p', f', Z', hT⟩).elim
  · refine Grows_bad v f h0 _ u w hu' C20 (fun W b => ?_)
    refine (Grow_any v ls u W (hu.below b) hl hll).mono ?_
    rintro e w' ⟨x, Z', p', f', rfl, hT, hR, hb⟩
    rcases hT with ⟨k1, _, rfl, rfl⟩ | ⟨n', L', rfl, rfl, hp', g1, g2, g3, _⟩
    · obtain rfl := k1.one hf
      obtain ⟨xa, xc, rfl⟩ := rw_form hR
      exact ⟨xa, xc, rfl, hR, hb⟩
    · exact (h0 (hf.one (.inr (.inr (.inr ⟨g3, n', L', rfl, g1, g2, rfl, hp'.rise3, .inr ⟨hp', rfl⟩⟩))))).elim
theorem Grows_end (v : Int) (ls : List (List Int)) (u : Value) (W : World) (_ : (Lit.int .i64 v).wf = true) (hu : Rw W u ls) (hll : ∀ l ∈ ls, l.length ≤ maxLen) (hl : ls.length ≤ maxLen) : Calls Try.prog 6 #[.int .i64 v, u] W fun e w' => e = .returned (.bool true) ∧ Below W.heap.size W w' := Grows_law v ls u W hu hll hl

end Go.Proofs.Ytdeofjmgjhfkcaa
