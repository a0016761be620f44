/- Few players: what could be is the scores of one; by the kernel. -/
import Derived.Test.YtgkfddcmngodgabTrL
namespace Go.Proofs.Ytgkfddcmngodgab

def m5 : Nat := 1107175966277869982719018858549313113434685123325440108842851942674307775366998201139488175483259753567951658215144850387146032923290728014477815864428904906080889701134588790851955492853208922465232836903630880961522765545816151407829238593876548738087828914401391994097761779653580170455454176963933253440251348619248569574556870413677840403594430581947715246736955799745942450278730747289815766770764044239718996397930726381675594792650916073394132787276539187856380847346794292840448430729533647237492414889057194941553808640350467761032509621396757073071284154345501915182006964974390270799854301948971099636022782370711500888640303679507153897340188956497057279089626430551381051849643400823046271528607623201647777698358555701735462074813673741844630725267455270758764871967697375574895257637976362409394293424051221175273185353219035324286294806037359134915160798500501848064
theorem mk_five : mkN 5 = m5 := by decide +kernel
theorem few_1 : ∀ x : Fin 1, fewX 1 (mkN 1) x.val = true := by decide +kernel
theorem few_2 : ∀ x : Fin 2, fewX 2 (mkN 2) x.val = true := by decide +kernel
theorem few_3 : ∀ x : Fin 3, fewX 3 (mkN 3) x.val = true := by decide +kernel
theorem few_4 : ∀ x : Fin 4, fewX 4 (mkN 4) x.val = true := by decide +kernel
theorem few_50 : fewX 5 m5 0 = true := by decide +kernel
theorem few_51 : fewX 5 m5 1 = true := by decide +kernel
theorem few_52 : fewX 5 m5 2 = true := by decide +kernel
theorem few_53 : fewX 5 m5 3 = true := by decide +kernel
theorem few_54 : fewX 5 m5 4 = true := by decide +kernel
theorem countP_lt_len {p : Nat → Bool} : ∀ {l : List Nat}, (∃ z ∈ l, p z = false) → l.countP p < l.length
  | [], ⟨_, h, _⟩ => by simp at h
  | x :: l, ⟨z, hz, hp⟩ => by
    rw [List.countP_cons, List.length_cons]
    rcases List.mem_cons.1 hz with rfl | hz
    · rw [hp]
      have := List.countP_le_length (p := p) (l := l)
      simp
      omega
    · have := countP_lt_len ⟨z, hz, hp⟩
      split <;> omega
theorem scT_lt {t : Nat → Nat → Bool} {n : Nat} (hI : ∀ a, a < n → t a a = false) : ∀ x ∈ scT t n, x < n := fun x hx => by
  obtain ⟨a, ha, rfl⟩ := List.mem_map.1 hx
  have ha := List.mem_range.1 ha
  have := countP_lt_len (p := t a) (l := List.range n) ⟨a, List.mem_range.2 ha, hI a ha⟩
  rwa [List.length_range] at this
theorem few_at {n : Nat} (h1 : 1 ≤ n) (h5 : n ≤ 5) {x : Nat} (hx : x < n) : fewX n (mkN n) x = true := by
  rcases (show n = 1 ∨ n = 2 ∨ n = 3 ∨ n = 4 ∨ n = 5 by omega) with rfl | rfl | rfl | rfl | rfl
  · exact few_1 ⟨x, hx⟩
  · exact few_2 ⟨x, hx⟩
  · exact few_3 ⟨x, hx⟩
  · exact few_4 ⟨x, hx⟩
  · rw [mk_five]
    rcases (show x = 0 ∨ x = 1 ∨ x = 2 ∨ x = 3 ∨ x = 4 by omega) with rfl | rfl | rfl | rfl | rfl
    · exact few_50
    · exact few_51
    · exact few_52
    · exact few_53
    · exact few_54
/-- Few players: scores that could be are those of a tournament, and of no list else. -/
theorem some_few {n : Nat} (h1 : 1 ≤ n) (h5 : n ≤ 5) {l : List Nat} (hl : l.length = n) (hx : ∀ x ∈ l, x < n) : coB l = true ↔ ∃ c, c < 2 ^ (n * (n - 1) / 2) ∧ scT (btC c) n = l := by
  constructor
  · intro h
    cases l with
    | nil => simp at hl; omega
    | cons x l =>
      have k := few_at h1 h5 (hx x (by simp))
      unfold fewX at k
      have k2 := List.all_eq_true.1 k l (mem_allL (by simp at hl; omega) fun z hz => hx z (by simp [hz]))
      rw [h] at k2
      obtain ⟨c, hc, e⟩ := mkB_at (cs := List.range (2 ^ (n * (n - 1) / 2))) (show (mkN n).testBit (enL n (x :: l)) = true by simpa using k2)
      exact ⟨c, List.mem_range.1 hc, enL_inj (by omega) (by rw [scT_len]; exact hl.symm) (scT_lt fun a _ => btC_irr c a) hx e⟩
  · rintro ⟨c, _, rfl⟩
    exact landau (btC_trn n c) fun a _ => btC_irr c a
end Go.Proofs.Ytgkfddcmngodgab
