/- So many times an expression: its language, its size: nothing of the program. No conditions. -/
import Derived.Test.YtdmajbdgjjmlkaaNew
namespace Go.Proofs.Ytdmajbdgjjmlkaa
set_option linter.unusedVariables false

def repT (lo hi : Int) (t : Rx) : Rx := .mk 3 lo hi 0 0 0 0 [t]
def seqT (n : Nat) (t : Rx) : Rx := .mk 1 0 0 0 0 0 0 (List.replicate n t)
theorem check_zero {t : Rx} : checkR t = 0 ↔ sizeR t ≠ 0 ∧ sizeR t < 257 := by
  have := sizeR_le t
  unfold checkR
  by_cases a : sizeR t = 0
  · rw [if_pos a]; simp [a]
  · by_cases b : sizeR t = 257
    · rw [if_neg a, if_pos b]; simp [b]
    · rw [if_neg a, if_neg b]; exact ⟨fun _ => ⟨a, by omega⟩, fun _ => rfl⟩
theorem form_rep {lo hi : Int} (h : 0 ≤ lo ∧ lo ≤ hi ∧ hi ≤ 15) : formF 3 lo hi 0 0 0 0 1 = true := by
  unfold formF areT noS
  rw [if_neg (by decide), if_neg (by decide), if_neg (by decide), if_pos rfl]
  simp only [Bool.and_eq_true, Bool.or_eq_true, decide_eq_true_eq]
  exact ⟨⟨by simp, ⟨by omega, by omega⟩, .inr ⟨by omega, by omega⟩⟩, trivial⟩
theorem rep_size {lo hi : Int} {t : Rx} (h : 0 ≤ lo ∧ lo ≤ hi ∧ hi ≤ 15) (ht : sizeR t ≠ 0) : sizeR (repT lo hi t) = min (1 + sizeR t * timesF lo hi) 257 := by
  have := sizeR_sum (k := 3) (mn := lo) (mx := hi) (s0 := 0) (s1 := 0) (s2 := 0) (s3 := 0) (l := [t]) (form_rep h) (fun x hx => by simp at hx; subst hx; exact ht)
  rw [sumR, sumR, Nat.add_zero] at this
  exact this
theorem rep_ok {lo hi : Int} {t : Rx} (h : 0 ≤ lo ∧ lo ≤ hi ∧ hi ≤ 15) (hc : checkR (repT lo hi t) = 0) : sizeR t ≠ 0 ∧ 1 + sizeR t * timesF lo hi < 257 := by
  rw [check_zero] at hc
  have ht := (sizeR_form (k := 3) (mn := lo) (mx := hi) (s0 := 0) (s1 := 0) (s2 := 0) (s3 := 0) (l := [t]) hc.1).2 t (by simp)
  rw [rep_size h ht] at hc
  exact ⟨ht, by omega⟩
theorem rep_one {lo hi : Int} {t : Rx} (h : 0 ≤ lo ∧ lo ≤ hi ∧ hi ≤ 15) (hc : checkR (repT lo hi t) = 0) (k : Int) (hk : lo ≤ k ∧ k ≤ hi) : checkR (repT k k t) = 0 := by
  obtain ⟨h1, h2⟩ := rep_ok h hc
  rw [check_zero, rep_size (by omega) h1]
  have : timesF k k ≤ timesF lo hi := by unfold timesF; omega
  have := Nat.mul_le_mul_left (sizeR t) this
  omega
theorem sumR_replicate (t : Rx) : ∀ n, sumR (List.replicate n t) = n * sizeR t
  | 0 => by simp [sumR]
  | n + 1 => by rw [List.replicate_succ, sumR, sumR_replicate t n, Nat.succ_mul, Nat.add_comm]
theorem seq_one {lo hi : Int} {t : Rx} (h : 0 ≤ lo ∧ lo ≤ hi ∧ hi ≤ 15) (hc : checkR (repT lo hi t) = 0) (k : Nat) (hk : (k : Int) ≤ hi) (h2 : 2 ≤ k) : checkR (seqT k t) = 0 := by
  obtain ⟨g1, g2⟩ := rep_ok h hc
  have hf : formF 1 0 0 0 0 0 0 (List.replicate k t).length = true := by
    rw [List.length_replicate]
    unfold formF noS
    rw [if_neg (by decide), if_pos rfl]
    simp
    omega
  have hs := sizeR_sum (k := 1) (mn := 0) (mx := 0) (s0 := 0) (s1 := 0) (s2 := 0) (s3 := 0) (l := List.replicate k t) hf (fun x hx => by rw [List.mem_replicate] at hx; rw [hx.2]; exact g1)
  rw [sumR_replicate, show timesF 0 0 = 1 from rfl, Nat.mul_one] at hs
  rw [check_zero, show sizeR (seqT k t) = min (1 + k * sizeR t) 257 from hs]
  have : k ≤ timesF lo hi := by unfold timesF; omega
  have := Nat.mul_le_mul_left (sizeR t) this
  rw [Nat.mul_comm (sizeR t) k] at this
  omega
theorem lang_rep {lo hi : Int} {t : Rx} (h : 0 ≤ lo ∧ lo ≤ hi) (s : Bs) : Lang (repT lo hi t) s ↔ ∃ j : Nat, lo ≤ (j : Int) ∧ (j : Int) ≤ hi ∧ Pow (Lang t) j s := by
  show (∃ j : Nat, lo ≤ (j : Int) ∧ (hi = -1 ∨ (j : Int) ≤ hi) ∧ Pow (Lang t) j s) ↔ _
  constructor
  · rintro ⟨j, a, b, c⟩; exact ⟨j, a, by omega, c⟩
  · rintro ⟨j, a, b, c⟩; exact ⟨j, a, .inr b, c⟩
theorem lang_rep1 {k : Nat} {t : Rx} (s : Bs) : Lang (repT k k t) s ↔ Pow (Lang t) k s := by
  rw [lang_rep (by omega)]
  constructor
  · rintro ⟨j, a, b, c⟩
    have : j = k := by omega
    subst this; exact c
  · intro c; exact ⟨k, by omega, by omega, c⟩
theorem langS_replicate (t : Rx) : ∀ (n : Nat) (s : Bs), LangS (List.replicate n t) s ↔ Pow (Lang t) n s
  | 0, s => Iff.rfl
  | n + 1, s => by
    show Cat (Lang t) (LangS (List.replicate n t)) s ↔ Cat (Lang t) (Pow (Lang t) n) s
    constructor
    · rintro ⟨u, v, rfl, hu, hv⟩; exact ⟨u, v, rfl, hu, (langS_replicate t n v).1 hv⟩
    · rintro ⟨u, v, rfl, hu, hv⟩; exact ⟨u, v, rfl, hu, (langS_replicate t n v).2 hv⟩
theorem lang_seq {n : Nat} {t : Rx} (s : Bs) : Lang (seqT n t) s ↔ Pow (Lang t) n s := langS_replicate t n s
theorem rep_okR {lo hi : Int} {t : Rx} (h : okR t) : okR (repT lo hi t) := by
  unfold repT; rw [okR, okL, okL]; exact ⟨by simp, h, trivial⟩
theorem okL_replicate {t : Rx} (h : okR t) : ∀ n, okL (List.replicate n t)
  | 0 => by rw [List.replicate_zero, okL]; trivial
  | n + 1 => by rw [List.replicate_succ, okL]; exact ⟨h, okL_replicate h n⟩
theorem seq_okR {n : Nat} {t : Rx} (h : okR t) : okR (seqT n t) := by
  unfold seqT; rw [okR]; exact ⟨by simp, okL_replicate h n⟩
end Go.Proofs.Ytdmajbdgjjmlkaa
