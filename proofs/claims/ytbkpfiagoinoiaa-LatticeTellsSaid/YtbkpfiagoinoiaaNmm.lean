/- Levels under other numbers, each less n from n - 1: plain facts on what flows among them. No conditions. -/
import Derived.Test.YtbkpfiagoinoiaaInv
namespace Go.Proofs.Ytbkpfiagoinoiaa
open Go.RowKit
set_option linter.unusedVariables false

def nmP (n : Int) (ps : List (Int × Int)) : List (Int × Int) := ps.map fun p => (n - 1 - p.1, n - 1 - p.2)
theorem nmP_len (n : Int) (ps : List (Int × Int)) : (nmP n ps).length = ps.length := by simp [nmP]
theorem nmP_twice (n : Int) (ps : List (Int × Int)) : nmP n (nmP n ps) = ps := by
  unfold nmP
  rw [List.map_map]
  conv => rhs; rw [← List.map_id ps]
  apply List.map_congr_left
  intro p _
  show (n - 1 - (n - 1 - p.1), n - 1 - (n - 1 - p.2)) = p
  rw [show n - 1 - (n - 1 - p.1) = p.1 by omega, show n - 1 - (n - 1 - p.2) = p.2 by omega]
theorem nmP_ok {n : Nat} {ps : List (Int × Int)} (h : ps.all (okP n) = true) : (nmP n ps).all (okP n) = true := by
  unfold nmP
  rw [List.all_map, List.all_eq_true]
  intro p hp
  have := List.all_eq_true.1 h p hp
  simp only [okP, Bool.and_eq_true, hasB_iff] at this
  show okP n (n - 1 - p.1, n - 1 - p.2) = true
  simp only [okP, Bool.and_eq_true, hasB_iff]
  omega
section
variable {n : Nat} {ps : List (Int × Int)} (h : ps.all (okP n) = true) (n8 : n ≤ 8)
include h n8
theorem nm_one (i j : Nat) (hi : i < n) (hj : j < n) (q : newG (nmP n ps) i j = true) : newG ps (n - 1 - i) (n - 1 - j) = true := by
  have hR : Pre fun i j => if i < n ∧ j < n then newG ps (n - 1 - i) (n - 1 - j) else decide (i = j) := by
    refine ⟨fun a ha => ?_, fun a b c ha hb hc h1 h2 => ?_⟩
    · by_cases e : a < n ∧ a < n
      · simp only [e, and_self, if_true]; exact (clo_pre _).refl _ (by omega)
      · simp only [if_neg e, decide_true]
    · by_cases e1 : a < n ∧ b < n
      · rw [if_pos e1] at h1
        by_cases e2 : b < n ∧ c < n
        · rw [if_pos e2] at h2
          rw [if_pos ⟨e1.1, e2.2⟩]
          exact (clo_pre _).trans _ (n - 1 - b) _ (by omega) (by omega) (by omega) h1 h2
        · rw [if_neg e2] at h2
          have : b = c := by simpa using h2
          omega
      · rw [if_neg e1] at h1
        have : a = b := by simpa using h1
        subst this
        exact h2
  have := clo_le hR (fun x y hx hy hf => ?_) (by omega) (by omega) q
  · rwa [if_pos ⟨hi, hj⟩] at this
  · have hin := newF_in (nmP_ok h) hf
    rw [if_pos hin]
    rw [newF_at, List.any_eq_true] at hf
    obtain ⟨p, hp, hpp⟩ := hf
    unfold nmP at hp
    obtain ⟨p0, hp0, rfl⟩ := List.mem_map.1 hp
    have ho := List.all_eq_true.1 h p0 hp0
    simp only [okP, Bool.and_eq_true, hasB_iff] at ho
    simp only [Bool.and_eq_true, decide_eq_true_eq] at hpp
    refine clo_of _ _ _ (by omega) ?_
    rw [newF_at, List.any_eq_true]
    exact ⟨p0, hp0, by simp only [Bool.and_eq_true, decide_eq_true_eq]; omega⟩
end
section
variable {n : Nat} {ps : List (Int × Int)} (h : ps.all (okP n) = true) (n8 : n ≤ 8)
include h n8
theorem nm_G (i j : Nat) (hi : i < n) (hj : j < n) : newG (nmP n ps) i j = newG ps (n - 1 - i) (n - 1 - j) := by
  refine bool_iff (nm_one h n8 i j hi hj) fun q => ?_
  have := nm_one (nmP_ok h) n8 (n - 1 - i) (n - 1 - j) (by omega) (by omega) (by rw [nmP_twice]; exact q)
  rwa [show n - 1 - (n - 1 - i) = i by omega, show n - 1 - (n - 1 - j) = j by omega] at this
end
/-- two that flow alike under the other numbers -/
def Named (n : Nat) (G H : Flw) : Prop := ∀ i j, i < n → j < n → H i j = G (n - 1 - i) (n - 1 - j)
theorem Named.symm {n : Nat} {G H : Flw} (h : Named n G H) : Named n H G := fun i j hi hj => by
  rw [h _ _ (by omega) (by omega), show n - 1 - (n - 1 - i) = i by omega, show n - 1 - (n - 1 - j) = j by omega]
theorem Named.turn {n : Nat} {G H : Flw} (h : Named n G H) : Named n (turn G) (turn H) := fun i j hi hj => h j i hj hi
theorem loopB_named1 {n : Nat} {G H : Flw} (h : Named n G H) (hg : loopB n G = false) : loopB n H = false := by
  refine loopB_false fun a ha b hb => ?_
  rw [h a b ha (by omega), h b a (by omega) ha]
  have := loopB_none hg (n - 1 - b) (by omega) (n - 1 - a) (by omega)
  rw [← Bool.not_eq_true, Bool.and_eq_true]
  exact fun q => this ⟨q.2, q.1⟩
theorem loopB_named {n : Nat} {G H : Flw} (h : Named n G H) : loopB n H = loopB n G := by
  cases hg : loopB n G with
  | false => exact loopB_named1 h hg
  | true =>
    cases hh : loopB n H with
    | true => rfl
    | false => have := loopB_named1 h.symm hh; rw [hg] at this; cases this
theorem lst_is {f : Flw} {n a b : Nat} : (∃ c, lst f n a b = some c) ↔ ∃ c, c < n ∧ ∀ j, j < 8 → f c j = (f a j && f b j) := by
  constructor
  · rintro ⟨c, hc⟩; exact ⟨c, lst_some hc⟩
  · rintro ⟨c, hc, q⟩
    cases h : lst f n a b with
    | some d => exact ⟨d, rfl⟩
    | none =>
      have := lst_none h c hc
      rw [Bool.eq_false_iff] at this
      exact absurd ((rowEq_iff _ _).2 q) this
/-- nothing flows to or from what is no level, but itself to itself -/
def Off (n : Nat) (G : Flw) : Prop := ∀ a b, a < 8 → b < 8 → (n ≤ a ∨ n ≤ b) → G a b = decide (a = b)
theorem Off.turn {n : Nat} {G : Flw} (h : Off n G) : Off n (turn G) := fun a b ha hb q => by
  rw [turn_at, h b a hb ha q.symm, decide_eq_decide]; exact ⟨fun e => e.symm, fun e => e.symm⟩
theorem new_off {n : Nat} {ps : List (Int × Int)} (h : ps.all (okP n) = true) : Off n (newG ps) := fun a b ha hb q => by
  refine bool_iff (fun g => ?_) (fun g => ?_)
  · have := newG_in h ha hb g
    simp; omega
  · have : a = b := by simpa using g
    subst this
    exact (clo_pre _).refl a ha
theorem lst_named {n : Nat} {G H : Flw} (h : Named n G H) (oG : Off n G) (oH : Off n H) (n8 : n ≤ 8) {a b : Nat} (ha : a < n) (hb : b < n) (q : ∃ c, lst G n a b = some c) : ∃ c, lst H n (n - 1 - a) (n - 1 - b) = some c := by
  obtain ⟨c, hc, e⟩ := lst_is.1 q
  refine lst_is.2 ⟨n - 1 - c, by omega, fun j hj => ?_⟩
  rcases Nat.lt_or_ge j n with hjn | hjn
  · rw [h _ _ (by omega) hjn, h _ _ (by omega) hjn, h _ _ (by omega) hjn, show n - 1 - (n - 1 - c) = c by omega, show n - 1 - (n - 1 - a) = a by omega, show n - 1 - (n - 1 - b) = b by omega]
    exact e _ (by omega)
  · have e1 : ∀ x, x < n → H x j = false := fun x hx => by rw [oH x j (by omega) hj (.inr hjn)]; simp; omega
    rw [e1 _ (by omega), e1 _ (by omega), e1 _ (by omega)]; rfl
theorem joinB_named1 {n : Nat} {G H : Flw} (h : Named n G H) (oG : Off n G) (oH : Off n H) (n8 : n ≤ 8) (hg : joinB n G = true) : joinB n H = true := by
  have jg := joins_all fun a ha b hb => (joinB_each hg a ha b hb).1
  have mg := joins_all fun a ha b hb => (joinB_each hg a ha b hb).2
  refine joinB_true fun a ha b hb => ⟨?_, ?_⟩
  · rw [lstI_eq ha (by omega)]
    have := lst_named h oG oH n8 (a := n - 1 - a) (b := n - 1 - b) (by omega) (by omega) (jg _ _ (by omega) (by omega))
    rwa [show n - 1 - (n - 1 - a) = a by omega, show n - 1 - (n - 1 - b) = b by omega] at this
  · rw [lstI_eq ha (by omega)]
    have := lst_named h.turn oG.turn oH.turn n8 (a := n - 1 - a) (b := n - 1 - b) (by omega) (by omega) (mg _ _ (by omega) (by omega))
    rwa [show n - 1 - (n - 1 - a) = a by omega, show n - 1 - (n - 1 - b) = b by omega] at this
theorem joinB_named {n : Nat} {G H : Flw} (h : Named n G H) (oG : Off n G) (oH : Off n H) (n8 : n ≤ 8) : joinB n H = joinB n G :=
  bool_iff (joinB_named1 h.symm oH oG n8) (joinB_named1 h oG oH n8)
theorem nm_E {n : Int} {ps : List (Int × Int)} (h : ps.all (okP n.toNat) = true) : newE n (nmP n ps) = newE n ps := by
  by_cases hs : n < 1 ∨ 8 < n ∨ 64 < ps.length
  · rw [newE_size hs, newE_size (by rw [nmP_len]; exact hs)]
  · obtain ⟨m, rfl⟩ : ∃ m : Nat, n = (m : Int) := ⟨n.toNat, by omega⟩
    rw [Int.toNat_natCast] at h
    have hN : Named m (newG ps) (newG (nmP m ps)) := nm_G h (by omega)
    rw [newE_rest hs (by simpa using h), newE_rest (by rw [nmP_len]; exact hs) (by simpa using nmP_ok h), Int.toNat_natCast, loopB_named hN, joinB_named hN (new_off h) (new_off (nmP_ok h)) (by omega)]
theorem jn_named {n : Nat} {G H : Flw} (L : Lat n G) (K : Lat n H) (h : Named n G H) {a b : Nat} (ha : a < n) (hb : b < n) : jn n G a b = n - 1 - jn n H (n - 1 - a) (n - 1 - b) := by
  have n8 := L.n8
  have hl := K.jn_lt (a := n - 1 - a) (c := n - 1 - b) (by omega) (by omega)
  refine L.jn_of ha hb (by omega) fun j hj => ?_
  have e := K.jn_at (a := n - 1 - a) (c := n - 1 - b) (by omega) (by omega) (n - 1 - j) (by omega)
  rw [h.symm _ _ (by omega) hj, h.symm _ _ ha hj, h.symm _ _ hb hj, show n - 1 - (n - 1 - jn n H (n - 1 - a) (n - 1 - b)) = jn n H (n - 1 - a) (n - 1 - b) by omega]
  exact e
theorem top_named {n : Nat} {G H : Flw} (L : Lat n G) (K : Lat n H) (h : Named n G H) {t s : Nat} (ht : t < n) (hs : s < n) (gt : ∀ a, a < n → G a t = true) (hsx : ∀ a, a < n → H a s = true) : t = n - 1 - s := by
  have n8 := L.n8
  refine L.anti t (n - 1 - s) ht (by omega) ?_ (gt _ (by omega))
  have := hsx (n - 1 - t) (by omega)
  rw [h _ _ (by omega) hs, show n - 1 - (n - 1 - t) = t by omega] at this
  exact this
theorem cover_named {n : Nat} {G H : Flw} (h : Named n G H) {a c : Nat} (ha : a < n) (hc : c < n) : coverB n H a c = coverB n G (n - 1 - a) (n - 1 - c) := by
  refine bool_iff (fun q => ?_) (fun q => ?_)
  · rw [coverB_iff] at q ⊢
    refine ⟨by omega, by rw [← h a c ha hc]; exact q.2.1, fun d hd e1 e2 g1 g2 => q.2.2 (n - 1 - d) (by omega) (by omega) (by omega) ?_ ?_⟩
    · rw [h _ _ ha (by omega), show n - 1 - (n - 1 - d) = d by omega]; exact g1
    · rw [h _ _ (by omega) hc, show n - 1 - (n - 1 - d) = d by omega]; exact g2
  · rw [coverB_iff] at q ⊢
    refine ⟨by omega, by rw [h a c ha hc]; exact q.2.1, fun d hd e1 e2 g1 g2 => q.2.2 (n - 1 - d) (by omega) (by omega) (by omega) ?_ ?_⟩
    · rw [← h a d ha hd]; exact g1
    · rw [← h d c hd hc]; exact g2
theorem prsC_len (n : Nat) (G : Flw) : (prsC n G n).length = ((List.range n).map fun a => (List.range n).countP (coverB n G a)).sum := by
  unfold prsC rowC
  rw [List.length_flatMap]
  congr 1
  apply List.map_congr_left
  intro a _
  rw [List.length_map, List.countP_eq_length_filter]
theorem rev_range (n : Nat) : (List.range n).map (fun i => n - 1 - i) = (List.range n).reverse := by
  apply List.ext_getElem
  · simp
  · intro i h1 h2
    simp [List.getElem_reverse]
theorem prs_named {n : Nat} {G H : Flw} (h : Named n G H) : (prsC n H n).length = (prsC n G n).length := by
  rw [prsC_len, prsC_len]
  have e1 : ((List.range n).map fun a => (List.range n).countP (coverB n H a)) = ((List.range n).map (fun i => n - 1 - i)).map fun a => (List.range n).countP (coverB n G a) := by
    rw [List.map_map]
    apply List.map_congr_left
    intro a ha
    have ha' : a < n := by simpa using ha
    show _ = (List.range n).countP (coverB n G (n - 1 - a))
    have e2 : (List.range n).countP (coverB n H a) = ((List.range n).map (fun i => n - 1 - i)).countP (coverB n G (n - 1 - a)) := by
      rw [List.countP_map]
      apply List.countP_congr
      intro c hc
      have hc' : c < n := by simpa using hc
      show coverB n H a c = true ↔ coverB n G (n - 1 - a) (n - 1 - c) = true
      rw [cover_named h ha' hc']
    rw [e2, rev_range, List.countP_reverse]
  rw [e1, rev_range, List.map_reverse, List.sum_reverse]
end Go.Proofs.Ytbkpfiagoinoiaa
