/- The systems that are made are systems. -/
import Derived.Test.YtdeofjmgjhfkcaaD1
import Derived.Test.YtdeofjmgjhfkcaaTKi
import Derived.Test.YtdeofjmgjhfkcaaC2
import Derived.Test.YtdeofjmgjhfkcaaD3
/- The systems that are made: reckoned. -/
namespace Go.Proofs.Ytdeofjmgjhfkcaa
open Go.RowKit

theorem docB0 : chkB 3 (docB 0) = true := by kernel_rfl
theorem docB1 : chkB 9 (docB 1) = true := by kernel_rfl
theorem docB2 : chkB 15 (docB 2) = true := by kernel_rfl
theorem docB3 : chkB 21 (docB 3) = true := by kernel_rfl
theorem docB4 : chkB 27 (docB 4) = true := by kernel_rfl
theorem docB5 : chkB 33 (docB 5) = true := by kernel_rfl
theorem docK0 : chkB 1 (docK 0) = true := by kernel_rfl
theorem docK1 : chkB 7 (docK 1) = true := by kernel_rfl
theorem docK2 : chkB 13 (docK 2) = true := by kernel_rfl
theorem docK3 : chkB 19 (docK 3) = true := by kernel_rfl
theorem docK4 : chkB 25 (docK 4) = true := by kernel_rfl
theorem docK5 : chkB 31 (docK 5) = true := by kernel_rfl

end Go.Proofs.Ytdeofjmgjhfkcaa

namespace Go.Proofs.Ytdeofjmgjhfkcaa
open Go.RowKit

theorem nb_perm' {A B : List (List Nat)} (h : A.Perm B) (s : List Nat) : nb A s = nb B s := h.countP_eq _
theorem nb_s3 (L : List (List Nat)) (s : List Nat) : nb (L.map s3) s = nb L s := by
  unfold nb
  rw [List.countP_map]
  refine List.countP_congr fun b _ => ?_
  simp [s3_mem]
theorem sys_perm {v : Nat} {A B : List (List Nat)} (h : A.Perm B) (s : Sys v A) : Sys v B :=
  ⟨fun b hb => s.bl b (h.mem_iff.2 hb), fun b hb => s.sz b (h.mem_iff.2 hb), fun p q hp hq hn => by rw [← nb_perm' h]; exact s.l2 p q hp hq hn⟩
theorem sys_s3 {v : Nat} {A : List (List Nat)} (s : Sys v A) : Sys v (A.map s3) := by
  refine ⟨fun b hb => ?_, fun b hb => ?_, fun p q hp hq hn => by rw [nb_s3]; exact s.l2 p q hp hq hn⟩
  · obtain ⟨c, hc, rfl⟩ := List.mem_map.1 hb
    have := s.bl c hc
    exact ⟨(s3_perm c).nodup_iff.2 this.1, fun x hx => this.lt x (s3_mem.1 hx)⟩
  · obtain ⟨c, hc, rfl⟩ := List.mem_map.1 hb
    rw [s3_len]; exact s.sz c hc
theorem mkL_sys {n : Nat} (h3 : n ≤ 33) (h : n % 6 = 1 ∨ n % 6 = 3) : Sys n (mkL n) := by
  unfold mkL
  by_cases h1 : n % 6 = 1
  · rw [if_pos h1]
    refine sys_perm (docK_perm _) (sys_s3 ?_)
    have hq : n = 6 * (n / 6) + 1 := by omega
    have h5 : n / 6 ≤ 5 := by omega
    generalize n / 6 = t at *
    subst hq
    match t, h5 with
    | 0, _ => exact chk_sys docK0
    | 1, _ => exact chk_sys docK1
    | 2, _ => exact chk_sys docK2
    | 3, _ => exact chk_sys docK3
    | 4, _ => exact chk_sys docK4
    | 5, _ => exact chk_sys docK5
  · rw [if_neg h1]
    refine sys_perm (docB_perm _) (sys_s3 ?_)
    have hq : n = 6 * (n / 6) + 3 := by omega
    have h5 : n / 6 ≤ 5 := by omega
    generalize n / 6 = t at *
    subst hq
    match t, h5 with
    | 0, _ => exact chk_sys docB0
    | 1, _ => exact chk_sys docB1
    | 2, _ => exact chk_sys docB2
    | 3, _ => exact chk_sys docB3
    | 4, _ => exact chk_sys docB4
    | 5, _ => exact chk_sys docB5
theorem rise_s3 {b : List Nat} (hn : b.Nodup) (h : b.Pairwise (· ≤ ·)) : b.Pairwise (· < ·) :=
  (h.and hn).imp fun ⟨a, b⟩ => Nat.lt_of_le_of_ne a b
/-- A system whose points and blocks are in order is a design. -/
theorem sys_good {v : Nat} {L Z : List (List Nat)} (hv : 1 ≤ v) (h33 : v ≤ 33) (s : Sys v L) (hS : Srtd L Z) (hs3 : ∀ b ∈ L, b.Pairwise (· ≤ ·)) : Sys v Z ∧ GoodD v Z := by
  have sZ : Sys v Z := sys_perm hS.perm.symm s
  have hl := sys_len sZ
  refine ⟨sZ, hv, by omega, ?_, fun b hb => rs_iff.2 ⟨rise_s3 (sZ.bl b hb).1 (hs3 b (hS.perm.mem_iff.1 hb)), fun x hx => ⟨Nat.zero_le _, (sZ.bl b hb).lt x hx⟩⟩⟩
  have : v * (v - 1) ≤ 33 * 32 := Nat.mul_le_mul h33 (by omega)
  omega
theorem mkL_s3 (n : Nat) : ∀ b ∈ mkL n, b.Pairwise (· ≤ ·) := by
  have key : ∀ {M : List (List Nat)} {L : List (List Nat)}, (M.map s3).Perm L → ∀ b ∈ L, b.Pairwise (· ≤ ·) := fun h b hb => by
    obtain ⟨c, _, rfl⟩ := List.mem_map.1 (h.mem_iff.2 hb)
    exact s3_le c
  unfold mkL
  by_cases h : n % 6 = 1
  · rw [if_pos h]; exact key (docK_perm _)
  · rw [if_neg h]; exact key (docB_perm _)
/-- How many points a system may have. -/
theorem sys_mod {v : Nat} {B : List (List Nat)} (hv : 1 ≤ v) (s : Sys v B) : v % 6 = 1 ∨ v % 6 = 3 := by
  by_cases h3 : v ≤ 3
  · by_cases h2 : v = 2
    · exfalso
      subst h2
      have h := s.l2 0 1 (by omega) (by omega) (by omega)
      have : 0 < nb B [0, 1] := by omega
      unfold nb at this
      obtain ⟨b, hb, _⟩ := List.countP_pos_iff.1 this
      have h1 := (s.bl b hb).le
      have h2 := s.sz b hb
      omega
    · omega
  · have hL := (sys_lev s.bl (by omega)).1 s
    obtain ⟨r, T⟩ := two_of s.bl s.sz (by omega) (by omega) hL.2.2
    exact (kirkman_mod T (by omega)).2

end Go.Proofs.Ytdeofjmgjhfkcaa
