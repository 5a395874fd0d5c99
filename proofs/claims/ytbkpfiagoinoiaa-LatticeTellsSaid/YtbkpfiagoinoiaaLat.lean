/- A lattice that pairs tell: plain facts on what New makes: an order with joins and meets; the pairs that tell it are those with nothing between. No conditions. -/
import Derived.Test.YtbkpfiagoinoiaaSam
namespace Go.Proofs.Ytbkpfiagoinoiaa
open Go.RowKit
set_option linter.unusedVariables false

theorem hasB_lt {n : Nat} {x : Int} (h : hasB n x = true) : x.toNat < n := by rw [hasB_iff] at h; omega
theorem newF_in {n : Nat} {ps : List (Int × Int)} (h : ps.all (okP n) = true) {i j : Nat} (hf : newF ps i j = true) : i < n ∧ j < n := by
  rw [newF_at, List.any_eq_true] at hf
  obtain ⟨p, hp, q⟩ := hf
  have := List.all_eq_true.1 h p hp
  simp only [okP, Bool.and_eq_true] at this
  simp only [Bool.and_eq_true, decide_eq_true_eq] at q
  have h1 := hasB_lt this.1
  have h2 := hasB_lt this.2
  omega
theorem newG_in {n : Nat} {ps : List (Int × Int)} (h : ps.all (okP n) = true) {i j : Nat} (hi : i < 8) (hj : j < 8) (hg : newG ps i j = true) : i = j ∨ (i < n ∧ j < n) := by
  have := clo_min (newF ps) (fun i j => decide (i = j ∨ (i < n ∧ j < n))) ⟨fun a _ => by simp, fun a b c _ _ _ h1 h2 => by simp only [decide_eq_true_eq] at h1 h2 ⊢; omega⟩
    (fun a b _ _ q => by have := newF_in h q; simp; omega) i j hi hj hg
  simpa using this
theorem lstI_eq {f : Flw} {n a c : Nat} (ha : a < n) (hc : c < n) : lstI f n a c ≠ -1 ↔ ∃ d, lst f n a c = some d := by
  rw [lstI_yes f ha hc]
  cases lst f n a c with
  | none => simp
  | some d =>
    constructor
    · intro _; exact ⟨d, rfl⟩
    · intro _ q; simp only at q; omega
theorem lst_self {f : Flw} {n a : Nat} (ha : a < n) : ∃ d, lst f n a a = some d := by
  cases h : lst f n a a with
  | some d => exact ⟨d, rfl⟩
  | none =>
    have := lst_none h a ha
    rw [Bool.eq_false_iff] at this
    exact absurd ((rowEq_iff _ _).2 fun i _ => by simp [andR]) this
theorem joins_all {f : Flw} {n : Nat} (h : ∀ a, a < n → ∀ b, b < a → lstI f n a b ≠ -1) (a b : Nat) (ha : a < n) (hb : b < n) : ∃ d, lst f n a b = some d := by
  rcases Nat.lt_trichotomy a b with q | q | q
  · rw [lst_comm]; exact (lstI_eq hb ha).1 (h b hb a q)
  · subst q; exact lst_self ha
  · exact (lstI_eq ha hb).1 (h a ha b q)
theorem newE_ok {n : Int} {ps : List (Int × Int)} (h : newE n ps = 0) : 1 ≤ n ∧ n ≤ 8 ∧ ps.length ≤ 64 ∧ ps.all (okP n.toNat) = true ∧ loopB n.toNat (newG ps) = false ∧ joinB n.toNat (newG ps) = true := by
  unfold newE at h
  by_cases h1 : n < 1 ∨ 8 < n ∨ 64 < ps.length
  · rw [if_pos h1] at h; cases h
  · rw [if_neg h1] at h
    by_cases h2 : ps.all (okP n.toNat) = false
    · rw [if_pos h2] at h; cases h
    · rw [if_neg h2] at h
      by_cases h3 : loopB n.toNat (newG ps) = true
      · rw [if_pos h3] at h; cases h
      · rw [if_neg h3] at h
        by_cases h4 : joinB n.toNat (newG ps) = false
        · rw [if_pos h4] at h; cases h
        · exact ⟨by omega, by omega, by omega, by simpa using h2, by simpa using h3, by simpa using h4⟩
theorem loopB_none {n : Nat} {G : Flw} (h : loopB n G = false) (a : Nat) (ha : a < n) (b : Nat) (hb : b < a) : ¬ (G a b = true ∧ G b a = true) := by
  intro q
  have := loopB_true (G := G) ha hb (by rw [q.1, q.2]; rfl)
  rw [h] at this
  cases this
theorem joinB_each {n : Nat} {G : Flw} (h : joinB n G = true) (a : Nat) (ha : a < n) (b : Nat) (hb : b < a) : lstI G n a b ≠ -1 ∧ lstI (turn G) n a b ≠ -1 := by
  refine ⟨fun q => ?_, fun q => ?_⟩
  · have := joinB_false ha hb (.inl q); rw [h] at this; cases this
  · have := joinB_false ha hb (.inr q); rw [h] at this; cases this
theorem new_lat {n : Int} {ps : List (Int × Int)} (h : newE n ps = 0) : Lat n.toNat (newG ps) := by
  obtain ⟨h1, h8, _, ha, hl, hj⟩ := newE_ok h
  refine ⟨by omega, by omega, clo_pre _, ?_, ?_, ?_, ?_⟩
  · intro a b ha hb q1 q2
    rcases Nat.lt_trichotomy a b with q | q | q
    · exact absurd ⟨q2, q1⟩ (loopB_none hl b hb a q)
    · exact q
    · exact absurd ⟨q1, q2⟩ (loopB_none hl a ha b q)
  · intro a b ha8 hb8 q g
    have := newG_in ha ha8 hb8 g
    omega
  · exact joins_all fun a ha b hb => (joinB_each hj a ha b hb).1
  · exact joins_all fun a ha b hb => (joinB_each hj a ha b hb).2

/-! ### nothing between -/
def coverB (n : Nat) (G : Flw) (a c : Nat) : Bool := decide (a ≠ c) && G a c && !(List.range n).any fun d => decide (d ≠ a) && decide (d ≠ c) && G a d && G d c
theorem coverB_iff (n : Nat) (G : Flw) (a c : Nat) : coverB n G a c = true ↔ a ≠ c ∧ G a c = true ∧ ∀ d, d < n → d ≠ a → d ≠ c → G a d = true → G d c = true → False := by
  simp only [coverB, Bool.and_eq_true, Bool.not_eq_true', decide_eq_true_eq, List.any_eq_false, List.mem_range]
  constructor
  · rintro ⟨⟨h1, h2⟩, h3⟩
    exact ⟨h1, h2, fun d hd e1 e2 g1 g2 => h3 d hd ⟨⟨⟨e1, e2⟩, g1⟩, g2⟩⟩
  · rintro ⟨h1, h2, h3⟩
    exact ⟨⟨h1, h2⟩, fun d hd q => h3 d hd q.1.1.1 q.1.1.2 q.1.2 q.2⟩
theorem clo_le {F R : Flw} (hR : Pre R) (h : ∀ i j, i < 8 → j < 8 → F i j = true → R i j = true) {i j : Nat} (hi : i < 8) (hj : j < 8) (q : clo F i j = true) : R i j = true := clo_min F R hR h i j hi hj q
/-- what flows but for one pair with nothing between: it is an order still -/
theorem Lat.less_pre {n : Nat} {G : Flw} (L : Lat n G) {a c : Nat} (ha : a < n) (hc : c < n) (hac : a ≠ c) (hn : ∀ d, d < n → d ≠ a → d ≠ c → G a d = true → G d c = true → False) : Pre (setF G a c false) := by
  have n8 := L.n8
  refine ⟨fun x hx => ?_, fun x y z hx hy hz h1 h2 => ?_⟩
  · unfold setF; rw [if_neg (by omega)]; exact L.pre.refl x hx
  · unfold setF at h1 h2 ⊢
    by_cases e1 : x = a ∧ y = c
    · rw [if_pos e1] at h1; cases h1
    · by_cases e2 : y = a ∧ z = c
      · rw [if_pos e2] at h2; cases h2
      · rw [if_neg e1] at h1
        rw [if_neg e2] at h2
        have h3 := L.pre.trans x y z hx hy hz h1 h2
        by_cases e3 : x = a ∧ z = c
        · obtain ⟨rfl, rfl⟩ := e3
          have hya : y ≠ x := fun e => e2 ⟨e, rfl⟩
          have hyc : y ≠ z := fun e => e1 ⟨rfl, e⟩
          have hyn : y < n := by
            rcases Nat.lt_or_ge y n with q | q
            · exact q
            · exact absurd (L.off x y hx hy (.inr q) h1) (fun e => hya e.symm)
          exact (hn y hyn hya hyc h1 h2).elim
        · rw [if_neg e3]; exact h3
theorem Lat.tell {n : Nat} {G : Flw} (L : Lat n G) {a c : Nat} (ha : a < n) (hc : c < n) : tellB G a c = coverB n G a c := by
  have n8 := L.n8
  by_cases hac : a = c
  · subst hac
    have h2 : coverB n G a a = false := by simp [coverB]
    rw [h2]
    unfold tellB
    have : flwEq (clo (setF G a a false)) G = true := by
      rw [flwEq_iff]
      intro i j hi hj
      refine bool_iff (clo_le L.pre (fun x y _ _ q => ?_) hi hj) (fun q => ?_)
      · unfold setF at q; split at q
        · cases q
        · exact q
      · by_cases e : i = a ∧ j = a
        · rw [e.1, e.2]; exact (clo_pre (setF G a a false)).refl a (by omega)
        · exact clo_of _ i j hi (by unfold setF; rw [if_neg e]; exact q)
    rw [this]; simp
  · refine bool_iff (fun h => ?_) (fun h => ?_)
    · unfold tellB at h
      rw [Bool.and_eq_true, Bool.not_eq_true', Bool.eq_false_iff] at h
      obtain ⟨hg, hne⟩ := h
      rw [coverB_iff]
      refine ⟨hac, hg, fun d hd e1 e2 g1 g2 => hne ?_⟩
      rw [flwEq_iff]
      intro i j hi hj
      refine bool_iff (clo_le L.pre (fun x y _ _ q => ?_) hi hj) (fun q => ?_)
      · unfold setF at q; split at q
        · cases q
        · exact q
      · by_cases e : i = a ∧ j = c
        · rw [e.1, e.2]
          have s1 : setF G a c false a d = true := by unfold setF; rw [if_neg (by omega)]; exact g1
          have s2 : setF G a c false d c = true := by unfold setF; rw [if_neg (by omega)]; exact g2
          exact (clo_pre _).trans a d c (by omega) (by omega) (by omega) (clo_of _ a d (by omega) s1) (clo_of _ d c (by omega) s2)
        · exact clo_of _ i j hi (by unfold setF; rw [if_neg e]; exact q)
    · rw [coverB_iff] at h
      obtain ⟨_, hg, hn⟩ := h
      unfold tellB
      rw [hg, Bool.true_and, Bool.not_eq_true', Bool.eq_false_iff, Ne, flwEq_iff]
      intro q
      have h1 := q a c (by omega) (by omega)
      rw [clo_self (L.less_pre ha hc hac hn) a c (by omega) (by omega), hg] at h1
      simp [setF] at h1
def rowC (n : Nat) (G : Flw) (a k : Nat) : List (Nat × Nat) := ((List.range k).filter (coverB n G a)).map fun c => (a, c)
def prsC (n : Nat) (G : Flw) (a : Nat) : List (Nat × Nat) := (List.range a).flatMap fun i => rowC n G i n
theorem Lat.prs {n : Nat} {G : Flw} (L : Lat n G) : prsL n G n = prsC n G n := by
  unfold prsL prsC
  rw [List.flatMap_def, List.flatMap_def]
  congr 1
  apply List.map_congr_left
  intro i hi
  unfold rowP rowC
  congr 1
  apply List.filter_congr
  intro c hc
  exact L.tell (by simpa using hi) (by simpa using hc)
theorem prsC_mem {n : Nat} {G : Flw} {p : Nat × Nat} (h : p ∈ prsC n G n) : p.1 < n ∧ p.2 < n ∧ coverB n G p.1 p.2 = true := by
  simp only [prsC, rowC, List.mem_flatMap, List.mem_map, List.mem_filter, List.mem_range] at h
  obtain ⟨i, hi, c, ⟨hc, hcov⟩, rfl⟩ := h
  exact ⟨hi, hc, hcov⟩
theorem mem_prsC {n : Nat} {G : Flw} {a c : Nat} (ha : a < n) (hc : c < n) (h : coverB n G a c = true) : (a, c) ∈ prsC n G n := by
  simp only [prsC, rowC, List.mem_flatMap, List.mem_map, List.mem_filter, List.mem_range]
  exact ⟨a, ha, c, ⟨hc, h⟩, rfl⟩
end Go.Proofs.Ytbkpfiagoinoiaa
