/- The walks of read and Parse. -/
import Derived.Test.YteocfkkdjejgdaaDoorPSp
namespace Go.Proofs.YteocfkkdjejgdaaDoor
open Go.RowKit

theorem splitK_len (sep : List UInt8) : ∀ (k : Nat) (s : List UInt8), ∀ p ∈ Lib.splitK sep 0 k s, p.length ≤ s.length
  | 0, s, p, hp => by
    have : p = s := by simpa [Lib.splitK] using hp
    rw [this]; exact Nat.le_refl _
  | k + 1, s, p, hp => by
    unfold Lib.splitK at hp
    split at hp
    · have : p = s := by simpa using hp
      rw [this]; exact Nat.le_refl _
    · rcases List.mem_cons.1 hp with rfl | hp
      · rw [List.length_take]; omega
      · have := splitK_len sep k _ p hp
        rw [List.length_drop] at this; omega
theorem Split_row (T : List UInt8) (hs : T.length ≤ 1000) (w : World) (hL : LK w) :
    Calls Tryd.prog 30 #[.string ⟨T.toArray⟩, .string ⟨#[41]⟩] w fun e w' => e = .returned (.slice (some ⟨w.heap.size, 0, none⟩) (Lib.split T [41]).length (Lib.split T [41]).length) ∧ OwnS w' w.heap.size (Lib.split T [41]).length (fun j => (Lib.split T [41]).getD j []) ∧ Below w.heap.size w w' := by
  obtain ⟨m, hm⟩ := hL.m
  have hc : Lib.countB ⟨T.toArray⟩ ⟨#[41]⟩ = Lib.count T [41] := rfl
  have hd := Lib.splitB_data ⟨#[41]⟩ 0 (Lib.countB ⟨T.toArray⟩ ⟨#[41]⟩) ⟨T.toArray⟩
  have hl := Lib.splitB_all ⟨#[41]⟩ (by decide) 0 _ ⟨T.toArray⟩ rfl
  have hd : (Lib.splitB ⟨#[41]⟩ 0 (Lib.countB ⟨T.toArray⟩ ⟨#[41]⟩) ⟨T.toArray⟩).map (·.data.toList) = Lib.split T [41] := hd
  have hlen : (Lib.split T [41]).length = Lib.countB ⟨T.toArray⟩ ⟨#[41]⟩ + 1 := by rw [← hd, List.length_map, hl]
  refine (strings_Split ⟨T.toArray⟩ ⟨#[41]⟩ m w (by show T.toArray.size < _; simp; omega) hm (by decide)).mono ?_
  rintro e w' ⟨rfl, rfl⟩
  refine ⟨by rw [hlen], ⟨_, heap_alloc_new w _, fun j hj => ?_⟩, balloc w _⟩
  rw [← hd, List.length_map] at hj
  generalize Lib.splitB ⟨#[41]⟩ 0 (Lib.countB ⟨T.toArray⟩ ⟨#[41]⟩) ⟨T.toArray⟩ = bs at hd hj
  rw [← hd]
  simp [List.getD_eq_getElem?_getD, hj]
theorem Trim_row (p : List UInt8) (w : World) : Calls Tryd.prog 32 #[.string ⟨p.toArray⟩, .string ⟨#[40]⟩] w fun e w' => e = .returned (.string ⟨(Lib.trimPrefix p [40]).toArray⟩) ∧ w' = w := strings_TrimPrefix ⟨p.toArray⟩ ⟨#[40]⟩ w
theorem trim_len (p : List UInt8) : (Lib.trimPrefix p [40]).length ≤ p.length := by
  unfold Lib.trimPrefix
  split
  · rw [List.length_drop]; omega
  · exact Nat.le_refl _
theorem wordsV_lt {n : Nat} : ∀ (ws : List (List UInt8)) (c : List Nat), wordsV n ws = some c → ∀ x ∈ c, x < n
  | [], c, h, x, hx => by cases h; cases hx
  | w :: ws, c, h, x, hx => by
    rw [wordsV] at h
    cases hv : wordV n w with
    | none => rw [hv] at h; cases h
    | some y =>
      rw [hv] at h
      obtain ⟨d, hd, rfl⟩ := Option.map_eq_some_iff.1 h
      rcases List.mem_cons.1 hx with rfl | hx
      · exact wordV_lt hv
      · exact wordsV_lt ws d hd x hx
theorem OwnS.other {w : World} {g n : Nat} {f : Nat → List UInt8} (h : OwnS w g n f) (a : Addr) (v : Value) (hne : g ≠ a.block) : OwnS (w.setCell a v) g n f := by
  obtain ⟨cur, h, hc⟩ := h
  exact ⟨cur, (heap_setCell_other w a g v hne).trans h, hc⟩
theorem pl_nodup {n : Nat} {f : Nat → Nat} (P : Pm n f) (hn : n ≤ 12) : dupB (pl n f) = false := by
  have h := pF_pl P hn
  unfold pF at h
  rw [if_neg (by simp; omega)] at h
  split at h
  · cases h
  · split at h
    · cases h
    · rename_i h1; simpa using h1
theorem pl_perm {n : Nat} {h : Nat → Nat} (hn : n ≤ 12) (hr : ∀ t, t < n → h t < n) (hd : dupB (pl n h) = false) : ∃ f, Pm n f ∧ pl n h = pl n f := by
  have h0 : pF (pl n h) = 0 := by
    unfold pF
    rw [if_neg (by simp; omega)]
    have h1 : inLB (pl n h).length (pl n h) = true := (inLB_iff _ _).2 fun j hj => by
      rw [pl_len] at hj
      rw [pl_at _ hj, pl_len]
      have := hr j hj
      omega
    rw [h1, if_neg (by simp), hd, if_neg (by simp)]
  obtain ⟨n', f, _, P, e⟩ := pF_ok h0
  have : n = n' := by have := congrArg List.length e; simpa using this
  subst this
  exact ⟨f, P, e⟩

/-- A row of numbers from a block's beginning on, if there are any. -/
def CI (w : World) (xa : Option Addr) (p B0 : Nat) (c : List Nat) : Prop := p = 0 ∨ ∃ g, xa = some ⟨g, 0, none⟩ ∧ B0 ≤ g ∧ Own w g p (fun t => (c.getD t 0 : Int))
theorem CI.other {w : World} {xa : Option Addr} {p B0 : Nat} {c : List Nat} (h : CI w xa p B0 c) (a : Addr) (v : Value) (hb : a.block < B0) : CI (w.setCell a v) xa p B0 c := by
  rcases h with h | ⟨g, h1, h2, h3⟩
  · exact .inl h
  · exact .inr ⟨g, h1, h2, h3.other a v (by omega)⟩
theorem vl_eq (c : List Nat) : vl c = (c.map Int.ofNat).map (Value.int .i64) := rfl
theorem CI.of {w : World} {B0 p : Nat} {x : Value} {c : List Nat} (h : w.ownsRow B0 3 1 x c.length (vl c)) (hp : c.length = p) : ∃ xa xc, x = .slice xa p xc ∧ CI w xa p B0 c := by
  rw [hp] at h
  by_cases h0 : p = 0
  · obtain ⟨_, ⟨rfl, rfl⟩ | ⟨g, cap, cur, rfl, _⟩⟩ := h
    · exact ⟨none, 0, rfl, .inl rfl⟩
    · exact ⟨_, cap, rfl, .inl h0⟩
  · rw [vl_eq] at h
    obtain ⟨g, cap, rfl, hg, hO⟩ := Own.of h (by omega)
    refine ⟨_, cap, rfl, .inr ⟨g, rfl, hg, hO.congr fun t ht => ?_⟩⟩
    have : t < c.length := by omega
    simp [List.getD_eq_getElem?_getD, this]
theorem getD_mem {c : List Nat} {t : Nat} (h : t < c.length) : c.getD t 0 ∈ c := by simp [List.getD_eq_getElem?_getD, h]
theorem stC_lt {n : Nat} {c : List Nat} (hc : ∀ x ∈ c, x < n) {h : Nat → Nat} (hh : ∀ t, t < n → h t < n) : ∀ q, q ≤ c.length → ∀ t, t < n → stC c h q t < n
  | 0, _, t, ht => hh t ht
  | q + 1, hq, t, ht => by
    show (if t = c.getD q 0 then c.getD ((q + 1) % c.length) 0 else stC c h q t) < n
    split
    · exact hc _ (getD_mem (Nat.mod_lt _ (by omega)))
    · exact stC_lt hc hh q (by omega) t ht

def ReadIs (n : Nat) (T : List UInt8) (e : Ending) (w' : World) : Prop :=
  (∃ f x, Pm n f ∧ permT n f = T ∧ e = .returned (.tuple #[x, .bool true]) ∧ Sl w' x (pl n f)) ∨ ((∀ f, Pm n f → permT n f ≠ T) ∧ e = .returned (.tuple #[.slice none 0 0, .bool false]))

set_option maxRecDepth 100000 in
set_option maxHeartbeats 4000000 in
theorem read_any (n : Nat) (T : List UInt8) (hn : n ≤ 12) (hT : T.length ≤ maxLen) (w : World) (hL : LK w) :
    Calls Tryd.prog 17 #[.string ⟨T.toArray⟩, .int .i64 (n : Int)] w fun e w' => ReadIs n T e w' ∧ Below w.heap.size w w' := by
  obtain ⟨i3, hi, hz0, hz1, hz2⟩ := info3
  have hTs : (⟨T.toArray⟩ : ByteArray).size = T.length := by show T.toArray.size = _; simp
  unfold maxLen at hT
  obtain ⟨tl, Htl⟩ : ∃ tl, Hid (T.length = tl) := ⟨_, rfl⟩
  rw [Htl.out] at hTs hT
  have hTi : (((⟨T.toArray⟩ : ByteArray).size : Nat) : Int) = (tl : Int) := by rw [hTs]
  by_cases hbig : 4 * n + 2 < tl
  · have hbi : 4 * (n : Int) + 2 < (tl : Int) := by omega
    have hd : decide (4 * (n : Int) + 2 < (tl : Int)) = true := decide_eq_true hbi
    have HN : Hid (∀ f, Pm n f → permT n f ≠ T) := fun f P e => by
      have := permT_len P hn
      rw [e, Htl.out] at this; omega
    go_enter Tryd.func17, Tryd.ntmps17
    go_wp2
    exact bodyPost_ret (v := .tuple #[.slice none 0 0, .bool false]) (by simp [results, Tryd.results17, go_sem]) rfl ⟨.inr ⟨HN.out, rfl⟩, Below.refl _ _⟩
  · have hbi : ¬ (4 * (n : Int) + 2 < (tl : Int)) := by omega
    have hd : decide (4 * (n : Int) + 2 < (tl : Int)) = false := decide_eq_false hbi
    have S := fun A h => Split_row T (by rw [Htl.out]; omega) A h
    obtain ⟨ps, Hps⟩ : ∃ ps, Hid (Lib.split T [41] = ps) := ⟨_, rfl⟩
    obtain ⟨r, Hr⟩ : ∃ r, Hid (ps.length = r) := ⟨_, rfl⟩
    rw [Hps.out, Hr.out] at S
    have HPL : Hid (∀ p ∈ ps, p.length ≤ 1000) := fun p hp => by
      rw [← Hps.out] at hp
      have := splitK_len [41] _ T p hp
      rw [Htl.out] at this; omega
    have hr : r ≤ 1000000 := by
      rw [← Hr.out, ← Hps.out]
      have h1 := Lib.splitB_length_le ⟨#[41]⟩ 0 (Lib.countB ⟨T.toArray⟩ ⟨#[41]⟩) ⟨T.toArray⟩
      have h2 := Lib.splitB_data ⟨#[41]⟩ 0 (Lib.countB ⟨T.toArray⟩ ⟨#[41]⟩) ⟨T.toArray⟩
      have h3 := congrArg List.length h2
      have h4 : (Lib.split T [41]).length = (Lib.splitK [41] 0 (Lib.countB ⟨T.toArray⟩ ⟨#[41]⟩) T).length := rfl
      have h5 : Lib.countB ⟨T.toArray⟩ ⟨#[41]⟩ ≤ T.length + 1 := Lib.count_le _ _
      rw [List.length_map] at h3
      have h6 : (Lib.splitK ([41] : List UInt8) 0 (Lib.countB ⟨T.toArray⟩ ⟨#[41]⟩) T).length = (Lib.splitB ⟨#[41]⟩ 0 (Lib.countB ⟨T.toArray⟩ ⟨#[41]⟩) ⟨T.toArray⟩).length := h3.symm
      rw [h4, h6, Htl.out] at *
      omega
    obtain ⟨Z, HZ⟩ : ∃ Z, Hid (partsV n ps id = Z) := ⟨_, rfl⟩
    have HF : Hid (∀ f, Pm n f → permT n f = T → ∃ h, Z = some h ∧ ∀ x, x < n → h x = f x) := fun f P e => by
      obtain ⟨h, h1, h2⟩ := read_permT P hn (fun l hl => Lib.fieldsD_ascii l hl)
      rw [e, Hps.out, HZ.out] at h1
      exact ⟨h, h1, h2⟩
    have HL : Hid (LK w) := hL
    clear hL
    go_enter Tryd.func17, Tryd.ntmps17
    go_wp2_with (first
      | (at_make; refine wpList_make_full _ rfl _ _ 22 rfl w.heap.size 3 i3 (.int .i64 0) 1 und22 hi hz0 hz1 .i64 .i64 (n : Int) (n : Int) n rfl rfl rfl rfl ?c1 ?c2 (Nat.le_refl _) ?_))
    case c1 => first | (rw [hz2]; omega) | omega
    case c2 => unfold maxLen; omega
    intro w1 how1 hgr1
    have hO1 := own_made' how1
    have hb1 : Below w.heap.size w w1 := ⟨hgr1.os, hgr1.tape, hgr1.output, hgr1.size, fun k hk => hgr1.block k hk (by simp)⟩
    clear how1 hgr1
    go_wp2
    go_loopw [24] (fun i wr => ∃ (j : Nat) (h : Nat → Int), i = .int .i64 j ∧ j ≤ n ∧ Own wr w.heap.size n h ∧ Hid (∀ t, t < j → h t = (t : Int)) ∧ Below w.heap.size w wr) (fun i _ => (n - intOf i).toNat)
    case atStart => exact ⟨0, _, rfl, by omega, hO1, (fun t ht => by omega : ∀ t, t < 0 → _), hb1⟩
    case round =>
      clear hO1 hb1
      obtain ⟨j, h, rfl, hj, hO, HH, hb⟩ := hrel
      by_cases hlt : j < n
      · have hji : (j : Int) < n := by omega
        have hjd : decide ((j : Int) < n) = true := decide_eq_true hji
        have hcell := hO.cell j hlt
        have hfr := hO.frozen j
        go_wp2
        go_roundw
        case rel =>
          refine ⟨j + 1, upd h j j, by go_num, by omega, hO.set j j, (fun t ht => ?_ : ∀ t, t < j + 1 → _), hb.setCell (p := ⟨w.heap.size, j, none⟩) (Nat.le_refl _) _⟩
          unfold upd
          by_cases e : t = j
          · subst e; rw [if_pos rfl]
          · rw [if_neg e]; exact HH.out t (by omega)
        case measure => simp [intOf]; omega
      · obtain rfl : j = n := by omega
        have hjd : decide ((j : Int) < (j : Int)) = false := by simp
        have hOr : Own wr w.heap.size j (fun t => ((id t : Nat) : Int)) := hO.congr fun t ht => HH.out t ht
        have hLr := HL.out.below hb
        have hlr := hOr.lt
        clear hO HH
        go_wp2_with (first
          | (go_at_call 30; refine (S _ hLr).mono ?_; rintro e w2 ⟨rfl, hS2, hb2⟩))
        have hO2 := hOr.below hb2
        have hB2 := Below.next hb hb2
        obtain ⟨A, HA⟩ : ∃ A, Hid (wr.heap.size = A) := ⟨_, rfl⟩
        rw [HA.out] at hS2 hlr ⊢
        clear hOr hb2 hb hLr S
        go_loopw [35] (fun i wr => ∃ (k : Nat) (h : Nat → Nat), i = .int .i64 k ∧ k ≤ r ∧ Own wr w.heap.size j (fun t => (h t : Int)) ∧ Hid (∀ t, t < j → h t < j) ∧ Hid (partsV j (ps.drop k) h = Z) ∧ OwnS wr A r (fun t => ps.getD t []) ∧ Below w.heap.size w wr) (fun i _ => (r - intOf i).toNat)
        case atStart => exact ⟨0, id, rfl, by omega, hO2, (fun t ht => ht : ∀ t, t < j → t < j), (by rw [List.drop_zero]; exact HZ.out : partsV j (ps.drop 0) id = Z), hS2, hB2⟩
        case round =>
          clear hO2 hS2 hB2
          obtain ⟨k, h, rfl, hk, hO, HR, HP, hS, hB⟩ := hrel
          by_cases hkr : k < r
          · have hki : (k : Int) < r := by omega
            have hkd : decide ((k : Int) < r) = true := decide_eq_true hki
            have hcell := hS.cell k hkr
            have hkl : k < ps.length := by rw [Hr.out]; exact hkr
            have HD : Hid (ps.drop k = ps.getD k [] :: ps.drop (k + 1)) := drop_get hkl
            have hpl := HPL.out (ps.getD k []) (by simp [List.getD_eq_getElem?_getD, hkl])
            obtain ⟨p0, Hp0⟩ : ∃ p0, Hid (ps.getD k [] = p0) := ⟨_, rfl⟩
            rw [Hp0.out] at hcell HD hpl
            have Tr := fun A => Trim_row p0 A
            have htl := trim_len p0
            have HPo := HP.out
            rw [HD.out, partsV, partV] at HPo
            obtain ⟨t0, Ht0⟩ : ∃ t0, Hid (Lib.trimPrefix p0 [40] = t0) := ⟨_, rfl⟩
            rw [Ht0.out] at Tr htl HPo
            have Sp := fun A h => split_any j t0 (by omega) A h
            have hLr := HL.out.below hB
            cases hw : wordsV j (Lib.fieldsD t0) with
            | none =>
              rw [hw] at Sp HPo
              have hZn : (none : Option (Nat → Nat)) = Z := HPo
              have HN : Hid (∀ f, Pm j f → permT j f ≠ T) := fun f P e => by
                obtain ⟨h, h1, _⟩ := HF.out f P e
                rw [← hZn] at h1; cases h1
              clear hkl hpl htl HPo HP hw hZn
              go_wp2_with (first
                | (go_at_call 32; refine (Tr _).mono ?_; rintro e w3 ⟨rfl, hw3⟩; replace hw3 := hw3.symm; subst hw3)
                | (go_at_call 31; refine (Sp _ hLr).mono ?_; rintro e w4 ⟨rfl, hb4⟩))
              exact bodyPost_ret (v := .tuple #[.slice none 0 0, .bool false]) (by simp [results, Tryd.results17, go_sem]) rfl ⟨.inr ⟨HN.out, rfl⟩, Below.next hB hb4⟩
            | some c =>
              rw [hw] at Sp HPo
              have HC : Hid (∀ x ∈ c, x < j) := wordsV_lt _ _ hw
              obtain ⟨p, Hp⟩ : ∃ p, Hid (c.length = p) := ⟨_, rfl⟩
              have hp : p ≤ 1000000 := by
                have h1 := fieldsD_words t0
                have h2 : ∀ (ws : List (List UInt8)) (c : List Nat), wordsV j ws = some c → c.length = ws.length := by
                  intro ws
                  induction ws with
                  | nil => intro c h; cases h; rfl
                  | cons w ws ih =>
                    intro c h
                    rw [wordsV] at h
                    cases hv : wordV j w with
                    | none => rw [hv] at h; cases h
                    | some y =>
                      rw [hv] at h
                      obtain ⟨d, hd, rfl⟩ := Option.map_eq_some_iff.1 h
                      rw [List.length_cons, List.length_cons, ih d hd]
                have h3 := h2 _ _ hw
                rw [← Hp.out]; omega
              have HP2 : Hid (partsV j (ps.drop (k + 1)) (setC c h) = Z) := HPo
              have hO' := hO
              clear hkl hpl htl HPo HP hw
              go_wp2_with (first
                | (go_at_call 32; refine (Tr _).mono ?_; rintro e w3 ⟨rfl, hw3⟩; replace hw3 := hw3.symm; subst hw3)
                | (go_at_call 31; refine (Sp _ hLr).mono ?_; rintro e w4 ⟨⟨x, rfl, hrow⟩, hb4⟩; obtain ⟨xa, xc, rfl, hci⟩ := CI.of hrow Hp.out; clear hrow))
              have hO4 := hO.below hb4
              have hS4 := hS.below hb4
              have hB4 := Below.next hB hb4
              have hsz := hO.lt
              obtain ⟨B0, HB0⟩ : ∃ B0, Hid (wr.heap.size = B0) := ⟨_, rfl⟩
              rw [HB0.out] at hci hsz
              clear hO hS hB hb4 hLr hcell
              go_loopw [50] (fun i wr => ∃ (q : Nat), i = .int .i64 q ∧ q ≤ p ∧ Own wr w.heap.size j (fun t => (stC c h q t : Int)) ∧ CI wr xa p B0 c ∧ OwnS wr A r (fun t => ps.getD t []) ∧ Below w.heap.size w wr) (fun i _ => (p - intOf i).toNat)
              case atStart => exact ⟨0, rfl, by omega, hO4, hci, hS4, hB4⟩
              case round =>
                clear hO4 hci hS4 hB4
                obtain ⟨q, rfl, hq, hO, hci, hS, hB⟩ := hrel
                by_cases hqp : q < p
                · have hqi : (q : Int) < p := by omega
                  have hqd : decide ((q : Int) < p) = true := decide_eq_true hqi
                  obtain ⟨g, rfl, hg, hOg⟩ := hci.resolve_left (by omega)
                  obtain ⟨s, Hs⟩ : ∃ s, Hid ((q + 1) % p = s) := ⟨_, rfl⟩
                  have hsp : s < p := by rw [← Hs.out]; exact Nat.mod_lt _ (by omega)
                  have hse : ((q : Int) + 1) % (p : Int) = (s : Int) := by rw [← Hs.out, Int.natCast_emod, Int.natCast_add]; rfl
                  have hpz : ((p : Int) == 0) = false := by simp; omega
                  have hsi : (s : Int) < p := by omega
                  have hcq := hOg.cell q hqp
                  have hcs := hOg.cell s hsp
                  obtain ⟨y, Hy⟩ : ∃ y, Hid (c.getD q 0 = y) := ⟨_, rfl⟩
                  obtain ⟨z, Hz⟩ : ∃ z, Hid (c.getD s 0 = z) := ⟨_, rfl⟩
                  have hyj : y < j := by rw [← Hy.out]; exact HC.out _ (getD_mem (by rw [Hp.out]; exact hqp))
                  have hyi : (y : Int) < j := by omega
                  rw [Hy.out] at hcq
                  rw [Hz.out] at hcs
                  have hcy := hO.cell y hyj
                  have hfy := hO.frozen y
                  go_wp2
                  go_roundw
                  case rel =>
                    refine ⟨q + 1, by go_num, by omega, (hO.set y z).congr fun t _ => ?_, CI.other (.inr ⟨g, rfl, hg, hOg⟩) _ _ (by simp; omega), hS.other _ _ (by simp; omega), hB.setCell (p := ⟨w.heap.size, y, none⟩) (Nat.le_refl _) _⟩
                    show upd (fun t => (stC c h q t : Int)) y z t = ((if t = c.getD q 0 then c.getD ((q + 1) % c.length) 0 else stC c h q t : Nat) : Int)
                    rw [Hy.out, Hp.out, Hs.out, Hz.out]
                    unfold upd
                    by_cases e : t = y
                    · rw [if_pos e, if_pos e]
                    · rw [if_neg e, if_neg e]
                  case measure => simp [intOf]; omega
                · obtain rfl : q = p := by omega
                  have hqd : decide ((q : Int) < (q : Int)) = false := by simp
                  go_wp2
                  go_roundw
                  case rel =>
                    refine ⟨k + 1, setC c h, by go_num, by omega, ?_, ?_, HP2, hS, hB⟩
                    · show Own _ _ _ (fun t => (stC c h c.length t : Int))
                      rw [Hp.out]; exact hO
                    · show ∀ t, t < j → stC c h c.length t < j
                      exact stC_lt HC.out HR.out _ (Nat.le_refl _)
                  case measure => simp [intOf]; omega
          · obtain rfl : k = r := by omega
            have hkd : decide ((k : Int) < (k : Int)) = false := by simp
            have hZ : some h = Z := by
              have := HP.out
              rw [List.drop_of_length_le (by rw [Hr.out]; exact Nat.le_refl _), partsV] at this
              exact this
            by_cases hex : ∃ f, Pm j f ∧ permT j f = T
            · obtain ⟨f, P, hPT⟩ := hex
              obtain ⟨h0, e0, e1⟩ := HF.out f P hPT
              have e2 : h = h0 := Option.some.inj (hZ.trans e0)
              have hsl : Sl wr (.slice (some ⟨w.heap.size, 0, none⟩) j j) (pl j f) := hO.pl j (fun t ht => by rw [e2, e1 t ht])
              have Tw := twice_any (pl j f) _ wr hsl (by rw [pl_len]; exact hn) (fun t ht => by
                rw [pl_len] at ht
                rw [pl_at f ht]
                have := P.lt t ht
                omega)
              rw [pl_nodup P hn] at Tw
              have Wr := fun A (hb : Below wr.heap.size wr A) => write_any j f _ A hn (hsl.below hb) P
              rw [hPT] at Wr
              have hfin := fun A (hb : Below wr.heap.size wr A) => hsl.below hb
              have HPf : Hid (Pm j f ∧ permT j f = T) := ⟨P, hPT⟩
              clear hO HR HP hZ e0 e1 e2 P hPT
              go_wp2_with (first
                | (go_at_call 24; refine Tw.mono ?_; rintro e w3 ⟨rfl, hb3⟩)
                | (go_at_call 15; refine (Wr _ hb3).mono ?_; rintro e w4 ⟨rfl, hb4⟩))
              exact bodyPost_ret (v := .tuple #[.slice (some ⟨w.heap.size, 0, none⟩) j j, .bool true]) (by simp [results, Tryd.results17, go_sem]) rfl ⟨.inl ⟨f, _, HPf.out.1, HPf.out.2, rfl, hfin _ (Below.next hb3 hb4)⟩, Below.next hB (Below.next hb3 hb4)⟩
            · have HN : Hid (∀ f, Pm j f → permT j f ≠ T) := fun f P e => hex ⟨f, P, e⟩
              cases hdup : dupB (pl j h) with
              | true =>
                have hsl : Sl wr (.slice (some ⟨w.heap.size, 0, none⟩) j j) (pl j h) := hO.pl j (fun t ht => rfl)
                have Tw := twice_any (pl j h) _ wr hsl (by rw [pl_len]; exact hn) (fun t ht => by
                  rw [pl_len] at ht
                  rw [pl_at h ht]
                  have := HR.out t ht
                  omega)
                rw [hdup] at Tw
                clear hO HR HP hZ hex hdup
                go_wp2_with (first
                  | (go_at_call 24; refine Tw.mono ?_; rintro e w3 ⟨rfl, hb3⟩))
                exact bodyPost_ret (v := .tuple #[.slice none 0 0, .bool false]) (by simp [results, Tryd.results17, go_sem]) rfl ⟨.inr ⟨HN.out, rfl⟩, Below.next hB hb3⟩
              | false =>
                obtain ⟨f, P, hpf⟩ := pl_perm hn HR.out hdup
                have hsl : Sl wr (.slice (some ⟨w.heap.size, 0, none⟩) j j) (pl j f) := by rw [← hpf]; exact hO.pl j (fun t ht => rfl)
                have Tw := twice_any (pl j f) _ wr hsl (by rw [pl_len]; exact hn) (fun t ht => by
                  rw [pl_len] at ht
                  rw [pl_at f ht]
                  have := P.lt t ht
                  omega)
                rw [pl_nodup P hn] at Tw
                have Wr := fun A (hb : Below wr.heap.size wr A) => write_any j f _ A hn (hsl.below hb) P
                have hne := HN.out f P
                obtain ⟨T', HT'⟩ : ∃ T', Hid (permT j f = T') := ⟨_, rfl⟩
                rw [HT'.out] at Wr hne
                have hnb : (T' == T) = false := by simpa using hne
                clear hO HR HP hZ hex hdup P hpf
                go_wp2_with (first
                  | (go_at_call 24; refine Tw.mono ?_; rintro e w3 ⟨rfl, hb3⟩)
                  | (go_at_call 15; refine (Wr _ hb3).mono ?_; rintro e w4 ⟨rfl, hb4⟩))
                exact bodyPost_ret (v := .tuple #[.slice none 0 0, .bool false]) (by simp [results, Tryd.results17, go_sem]) rfl ⟨.inr ⟨HN.out, rfl⟩, Below.next hB (Below.next hb3 hb4)⟩

/-- What Parse comes to. -/
def ParseIs (n : Nat) (T : List UInt8) (e : Ending) (w' : World) : Prop :=
  (∃ f x, Pm n f ∧ permT n f = T ∧ e = .returned (.tuple #[x, .int .i64 0]) ∧ Sl w' x (pl n f)) ∨ ((∀ f, Pm n f → permT n f ≠ T) ∧ e = .returned (.tuple #[.slice none 0 0, .int .i64 5]))
theorem Parse_n (n : Int) (T : ByteArray) (w : World) (h : n < 0 ∨ 12 < n) :
    Calls Tryd.prog 8 #[.string T, .int .i64 n] w fun e w' => e = .returned (.tuple #[.slice none 0 0, .int .i64 1]) ∧ Below w.heap.size w w' := by
  by_cases h1 : n < 0
  · have hd : decide (n < 0) = true := by simpa using h1
    go_enter Tryd.func8, Tryd.ntmps8
    go_wp2
    exact bodyPost_ret (v := .tuple #[.slice none 0 0, .int .i64 1]) (by simp [results, Tryd.results8, go_sem]) rfl ⟨rfl, Below.refl _ _⟩
  · have hd : decide (n < 0) = false := by simpa using h1
    have hd2 : decide (12 < n) = true := by simp; omega
    clear h
    go_enter Tryd.func8, Tryd.ntmps8
    go_wp2
    exact bodyPost_ret (v := .tuple #[.slice none 0 0, .int .i64 1]) (by simp [results, Tryd.results8, go_sem]) rfl ⟨rfl, Below.refl _ _⟩
theorem Parse_any (n : Nat) (T : List UInt8) (hn : n ≤ 12) (hT : T.length ≤ maxLen) (w : World) (hL : LK w) :
    Calls Tryd.prog 8 #[.string ⟨T.toArray⟩, .int .i64 (n : Int)] w fun e w' => ParseIs n T e w' ∧ Below w.heap.size w w' := by
  have C := read_any n T hn hT w hL
  have hd0 : decide ((n : Int) < 0) = false := decide_eq_false (by omega)
  have hd1 : decide (12 < (n : Int)) = false := decide_eq_false (by omega)
  clear hL hT
  go_enter Tryd.func8, Tryd.ntmps8
  go_wp2_with (first
    | (go_at_call 17; refine C.mono ?_; rintro e w1 ⟨⟨f, x, P, hP, rfl, hx⟩ | ⟨hN, rfl⟩, hb1⟩))
  · exact bodyPost_ret (v := .tuple #[x, .int .i64 0]) (by simp [results, Tryd.results8, go_sem]) rfl ⟨.inl ⟨f, x, P, hP, rfl, hx⟩, hb1⟩
  · exact bodyPost_ret (v := .tuple #[.slice none 0 0, .int .i64 5]) (by simp [results, Tryd.results8, go_sem]) rfl ⟨.inr ⟨hN, rfl⟩, hb1⟩
theorem Parse_back (n : Nat) (f : Nat → Nat) (P : Pm n f) (hn : n ≤ 12) (w : World) (hL : LK w) :
    Calls Tryd.prog 8 #[.string ⟨(permT n f).toArray⟩, .int .i64 (n : Int)] w fun e w' => ∃ x, e = .returned (.tuple #[x, .int .i64 0]) ∧ Sl w' x (pl n f) ∧ Below w.heap.size w w' := by
  have hl := permT_len P hn
  refine (Parse_any n (permT n f) hn (by unfold maxLen; omega) w hL).mono ?_
  rintro e w' ⟨⟨g, x, Q, hQ, rfl, hx⟩ | ⟨hN, rfl⟩, hb⟩
  · refine ⟨x, rfl, ?_, hb⟩
    rw [pl_congr (f := f) (g := g) (fun i hi => (permT_one Q P hn hQ hi).symm)]
    exact hx
  · exact absurd rfl (hN f P)

end Go.Proofs.YteocfkkdjejgdaaDoor
