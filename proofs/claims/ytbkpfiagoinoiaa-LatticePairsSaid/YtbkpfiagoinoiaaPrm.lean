/- The pairs with nothing between tell it all, and each of them is wanted: plain facts. No conditions. -/
import Derived.Test.YtbkpfiagoinoiaaMom
namespace Go.Proofs.Ytbkpfiagoinoiaa
open Go.RowKit
set_option linter.unusedVariables false

theorem rowC_mem {n : Nat} {G : Flw} {a k : Nat} {p : Nat × Nat} (h : p ∈ rowC n G a k) : p.1 = a := by
  unfold rowC at h
  obtain ⟨c, _, rfl⟩ := List.mem_map.1 h
  rfl
theorem rowC_nodup (n : Nat) (G : Flw) (a k : Nat) : (rowC n G a k).Nodup := by
  unfold rowC
  have h : ((List.range k).filter (coverB n G a)).Nodup := List.Nodup.sublist List.filter_sublist List.nodup_range
  unfold List.Nodup at h ⊢
  rw [List.pairwise_map]
  exact h.imp fun hne e => hne (by injection e)
theorem prsC_nodup (n : Nat) (G : Flw) : ∀ k, (prsC n G k).Nodup
  | 0 => by simp [prsC]
  | k + 1 => by
    have ih := prsC_nodup n G k
    have e : prsC n G (k + 1) = prsC n G k ++ rowC n G k n := by simp [prsC, List.range_succ, List.flatMap_append]
    rw [e, List.nodup_append]
    refine ⟨ih, rowC_nodup n G k n, fun p hp q hq hpq => ?_⟩
    subst hpq
    have h1 := rowC_mem hq
    simp only [prsC, List.mem_flatMap, List.mem_range] at hp
    obtain ⟨i, hi, hr⟩ := hp
    have h2 := rowC_mem hr
    omega
theorem natP_F (l : List (Nat × Nat)) (i j : Nat) : newF (natP l) i j = true ↔ (i, j) ∈ l := by
  rw [newF_at, List.any_eq_true]
  unfold natP
  constructor
  · rintro ⟨p, hp, q⟩
    obtain ⟨p0, hp0, rfl⟩ := List.mem_map.1 hp
    simp only [Bool.and_eq_true, decide_eq_true_eq, Int.toNat_natCast] at q
    obtain ⟨rfl, rfl⟩ := q
    exact hp0
  · intro h
    exact ⟨((i : Int), (j : Int)), List.mem_map.2 ⟨(i, j), h, rfl⟩, by simp⟩
theorem covers_ok {n : Nat} {G : Flw} {l : List (Nat × Nat)} (hl : ∀ p ∈ l, p ∈ prsC n G n) : (natP l).all (okP n) = true := by
  unfold natP
  rw [List.all_map, List.all_eq_true]
  intro p hp
  have := prsC_mem (hl p hp)
  show okP n ((p.1 : Int), (p.2 : Int)) = true
  simp only [okP, Bool.and_eq_true, hasB_iff]
  omega
/-- how many lie between -/
def gap (n : Nat) (G : Flw) (a c : Nat) : Nat := ((List.range n).filter fun d => G a d && G d c).length
section
variable {n : Nat} {G : Flw} (L : Lat n G)
include L
theorem Lat.gap_less {a c d : Nat} (ha : a < n) (hc : c < n) (hd : d < n) (hda : d ≠ a) (hdc : d ≠ c) (h1 : G a d = true) (h2 : G d c = true) : gap n G a d < gap n G a c ∧ gap n G d c < gap n G a c := by
  have n8 := L.n8
  have mono : ∀ (p q : Nat → Bool) (x : Nat), x < n → (∀ e, e < n → p e = true → q e = true) → p x = false → q x = true → ((List.range n).filter p).length < ((List.range n).filter q).length := by
    intro p q x hx hpq hp hq
    rw [← List.countP_eq_length_filter, ← List.countP_eq_length_filter]
    have key : ∀ l : List Nat, (∀ e ∈ l, e < n) → x ∈ l → l.countP p < l.countP q := by
      intro l
      induction l with
      | nil => intro _ h; cases h
      | cons e l ih =>
        intro hl hx2
        have hle : l.countP p ≤ l.countP q := List.countP_mono_left fun e he => hpq e (hl e (by simp [he]))
        rw [List.countP_cons, List.countP_cons]
        rcases List.mem_cons.1 hx2 with rfl | hx2
        · rw [hp, hq]; simp; omega
        · have := ih (fun e he => hl e (by simp [he])) hx2
          have he := hpq e (hl e (by simp))
          cases hpe : p e with
          | false => simp; split <;> omega
          | true => rw [he hpe]; simp; omega
    exact key _ (fun e he => by simpa using he) (by simpa using hx)
  constructor
  · refine mono _ _ c hc (fun e he q => ?_) ?_ ?_
    · simp only [Bool.and_eq_true] at q ⊢
      exact ⟨q.1, L.pre.trans e d c (by omega) (by omega) (by omega) q.2 h2⟩
    · cases q : G c d with
      | false => simp
      | true => exact absurd (L.anti c d hc hd q h2) (fun e => hdc e.symm)
    · rw [L.pre.trans a d c (by omega) (by omega) (by omega) h1 h2, L.pre.refl c (by omega)]; rfl
  · refine mono _ _ a ha (fun e he q => ?_) ?_ ?_
    · simp only [Bool.and_eq_true] at q ⊢
      exact ⟨L.pre.trans a d e (by omega) (by omega) (by omega) h1 q.1, q.2⟩
    · cases q : G d a with
      | false => simp
      | true => exact absurd (L.anti a d ha hd h1 q) (fun e => hda e.symm)
    · rw [L.pre.refl a (by omega), L.pre.trans a d c (by omega) (by omega) (by omega) h1 h2]; rfl
theorem Lat.covers_all : ∀ (k a c : Nat), gap n G a c ≤ k → a < n → c < n → G a c = true → newG (natP (prsC n G n)) a c = true
  | k, a, c, hk, ha, hc, h => by
    have n8 := L.n8
    by_cases hac : a = c
    · subst hac; exact (clo_pre _).refl a (by omega)
    · cases hcov : coverB n G a c with
      | true => exact clo_of _ a c (by omega) ((natP_F _ _ _).2 (mem_prsC ha hc hcov))
      | false =>
        have hex : ∃ d, d < n ∧ d ≠ a ∧ d ≠ c ∧ G a d = true ∧ G d c = true := by
          refine Classical.byContradiction fun hno => ?_
          have : coverB n G a c = true := (coverB_iff n G a c).2 ⟨hac, h, fun d hd e1 e2 g1 g2 => hno ⟨d, hd, e1, e2, g1, g2⟩⟩
          rw [hcov] at this; cases this
        obtain ⟨d, hd, e1, e2, g1, g2⟩ := hex
        have hg := L.gap_less ha hc hd e1 e2 g1 g2
        match k, hk with
        | 0, hk => omega
        | k + 1, hk =>
          exact (clo_pre _).trans a d c (by omega) (by omega) (by omega) (Lat.covers_all k a d (by omega) ha hd g1) (Lat.covers_all k d c (by omega) hd hc g2)
theorem Lat.covers_alike : Alike (newG (natP (prsC n G n))) G := fun i j hi hj => by
  have n8 := L.n8
  refine bool_iff (clo_le L.pre (fun a b _ _ f => ?_) hi hj) (fun g => ?_)
  · have := prsC_mem ((natP_F _ _ _).1 f)
    exact ((coverB_iff n G a b).1 this.2.2).2.1
  · by_cases q : i < n ∧ j < n
    · exact L.covers_all _ i j (Nat.le_refl _) q.1 q.2 g
    · have := L.off i j hi hj (by omega) g
      subst this
      exact (clo_pre _).refl i hi
theorem Lat.covers_E (hlo : loopB n G = false) (hjo : joinB n G = true) : newE n (natP (prsC n G n)) = 0 := by
  have n8 := L.n8
  have n1 := L.n1
  have hlen : (natP (prsC n G n)).length ≤ 64 := by
    unfold natP
    rw [List.length_map, ← L.prs]
    exact Nat.le_trans (prsL_len n G n) (Nat.le_trans (Nat.mul_le_mul n8 n8) (by decide))
  rw [newE_rest (by omega) (by simpa using covers_ok (G := G) (fun p hp => hp)), Int.toNat_natCast, loopB_same n8 L.covers_alike, joinB_same n8 L.covers_alike, hlo, hjo]
  rfl
/-- without one of them it does not flow -/
theorem Lat.wanted {i : Nat} (hi : i < (prsC n G n).length) : newG (natP ((prsC n G n).take i ++ (prsC n G n).drop (i + 1))) ((prsC n G n)[i]).1 ((prsC n G n)[i]).2 = false := by
  have n8 := L.n8
  have hm := prsC_mem (List.getElem_mem hi)
  have hc := (coverB_iff n G _ _).1 hm.2.2
  have hpre := L.less_pre hm.1 hm.2.1 hc.1 hc.2.2
  cases hq : newG (natP ((prsC n G n).take i ++ (prsC n G n).drop (i + 1))) ((prsC n G n)[i]).1 ((prsC n G n)[i]).2 with
  | false => rfl
  | true =>
    have := clo_le hpre (fun a b _ _ f => ?_) (by omega) (by omega) hq
    · simp [setF] at this
    · have hmem := (natP_F _ _ _).1 f
      have hnd := prsC_nodup n G n
      have hin : (a, b) ∈ prsC n G n := by
        rcases List.mem_append.1 hmem with h | h
        · exact List.mem_of_mem_take h
        · exact List.mem_of_mem_drop h
      have hne : (a, b) ≠ (prsC n G n)[i] := by
        intro e
        rcases List.mem_append.1 hmem with h | h
        · obtain ⟨j, hj, ej⟩ := List.getElem_of_mem h
          rw [List.getElem_take] at ej
          rw [List.length_take] at hj
          exact (List.pairwise_iff_getElem.1 hnd) j i (by omega) hi (by omega) (by rw [ej, e])
        · obtain ⟨j, hj, ej⟩ := List.getElem_of_mem h
          rw [List.getElem_drop] at ej
          rw [List.length_drop] at hj
          exact (List.pairwise_iff_getElem.1 hnd) i (i + 1 + j) hi (by omega) (by omega) (by rw [ej, e])
      have hcab := ((coverB_iff n G a b).1 (prsC_mem hin).2.2).2.1
      unfold setF
      rw [if_neg (fun q => hne (by rw [q.1, q.2]))]
      exact hcab
end
end Go.Proofs.Ytbkpfiagoinoiaa
