/- Spaces side by side with the document's: the first of each. No conditions. -/
import Derived.Test.YtedhefidfepclaaRqn
namespace Go.Proofs.Ytedhefidfepclaa
open Go.RowKit Go.Maps
set_option linter.unusedVariables false
set_option linter.unusedSimpArgs false

theorem Stt.init {W1 w2 w3 : World} {s : SpAt} {q : QAt} {B : Bts} {ns : List Nat} {ps : List Pg} (h1 : IsS w2 s B ns ps) (b1 : Below W1.heap.size W1 w2) (hg : W1.heap.size ≤ s.g) (hgp : W1.heap.size ≤ s.gp) (h2 : IsQ w3 (newT w2 w3 q) q B ns ps) (b2 : Below w2.heap.size w2 w3)
    (hy : w2.heap.size ≤ q.y) (hm : w2.heap.size ≤ q.m) (hqg : w2.heap.size ≤ q.g) (hgt : w2.heap.size ≤ q.gt) :
    ∃ own, Stt W1.heap.size 0 ns W1 ((w3.alloc (.cells #[.pointer (some ⟨s.p, 0, none⟩)] 24)).alloc (.cells #[.pointer (some ⟨q.y, 0, none⟩)] 28)) (.slice (some ⟨w3.heap.size, 0, none⟩) 1 1) (.slice (some ⟨w3.heap.size + 1, 0, none⟩) 1 1) own [⟨s, q, B, ps⟩] := by
  have na := block_new w3 (.cells #[.pointer (some ⟨s.p, 0, none⟩)] 24)
  have nb := block_new (w3.alloc (.cells #[.pointer (some ⟨s.p, 0, none⟩)] 24)) (.cells #[.pointer (some ⟨q.y, 0, none⟩)] 28)
  have na2 := block_alloc na (.cells #[.pointer (some ⟨q.y, 0, none⟩)] 28)
  rw [World.size_alloc] at nb
  have s5 : ((w3.alloc (.cells #[.pointer (some ⟨s.p, 0, none⟩)] 24)).alloc (.cells #[.pointer (some ⟨q.y, 0, none⟩)] 28)).heap.size = w3.heap.size + 2 := by rw [World.size_alloc, World.size_alloc]
  have b4 : Below w3.heap.size w3 ((w3.alloc (.cells #[.pointer (some ⟨s.p, 0, none⟩)] 24)).alloc (.cells #[.pointer (some ⟨q.y, 0, none⟩)] 28)) := ((Below.refl _ w3).alloc (Nat.le_refl _) _).alloc (by rw [World.size_alloc]; omega) _
  have z1 := b1.size
  have z2 := b2.size
  generalize (w3.alloc (.cells #[.pointer (some ⟨s.p, 0, none⟩)] 24)).alloc (.cells #[.pointer (some ⟨q.y, 0, none⟩)] 28) = w5 at *
  have b25 : Below w2.heap.size w2 w5 := b2.trans (b4.mono b2.size)
  obtain ⟨l1, l2, l3, l4, l5⟩ := h1.lt
  obtain ⟨m1, m2, m3, m4⟩ := h2.lt
  have t77 : TyB w2 s.p 77 := ⟨_, _, h1.blk⟩
  have t113 : TyB w2 s.pm 113 := ⟨_, _, h1.mem.blk⟩
  have t114 : TyB w2 s.g 114 := by obtain ⟨c, f, hc, _⟩ := h1.mem.row; exact ⟨_, _, hc⟩
  have t56 : TyB w2 s.gp 56 := by obtain ⟨c, hc, _⟩ := h1.pgs; exact ⟨_, _, hc⟩
  have t3' : TyB w2 s.gb 3 := by obtain ⟨c, hc, _⟩ := h1.bds; exact ⟨_, _, hc⟩
  have u81 : TyB w3 q.y 81 := ⟨_, _, h2.blk⟩
  have u94 : TyB w3 q.m 94 := ⟨_, _, h2.mem.blk⟩
  have u9 : TyB w3 q.g 9 := by obtain ⟨c, hc, _⟩ := h2.mem.row; exact ⟨_, _, hc⟩
  have u50 : TyB w3 q.gt 50 := by obtain ⟨c, hc, _⟩ := h2.tab; exact ⟨_, _, hc⟩
  obtain ⟨ow, how⟩ : ∃ ow : Nat → Nat, ow = fun j => if j < w2.heap.size then (if j = s.g ∨ j = s.gp then 4 else 0) else if j < w3.heap.size then (if j = q.g ∨ j = q.gt then 5 else 1) else if j < w5.heap.size then 3 else 0 := ⟨_, rfl⟩
  have a0 : ∀ j, j < w2.heap.size → ow j = if j = s.g ∨ j = s.gp then 4 else 0 := fun j h1 => by rw [how]; exact if_pos h1
  have a1 : ∀ j, w2.heap.size ≤ j → j < w3.heap.size → ow j = if j = q.g ∨ j = q.gt then 5 else 1 := fun j h1 h2 => by rw [how]; show (if j < _ then _ else _) = _; rw [if_neg (by omega), if_pos h2]
  have a2 : ∀ j, w3.heap.size ≤ j → j < w5.heap.size → ow j = 3 := fun j h1 h2 => by rw [how]; show (if j < _ then _ else _) = _; rw [if_neg (by omega), if_neg (by omega), if_pos h2]
  have a3 : ∀ j, w5.heap.size ≤ j → ow j = 0 := fun j h1 => by rw [how]; show (if j < _ then _ else _) = _; rw [if_neg (by omega), if_neg (by omega), if_neg (by omega)]
  clear how
  refine ⟨ow, Nat.le_refl _, b1.trans (b25.mono b1.size), fun j hj => ?_, fun i hi => ?_, fun i hi => ?_, fun i hi => ?_, fun i hi => ?_, ?_, fun j hj => ?_, ?_, fun j hj => ?_, Nat.zero_lt_one, Nat.le_refl _⟩
  · by_cases c1 : j < w2.heap.size
    · rw [a0 j c1] at hj
      by_cases c2 : j = s.g ∨ j = s.gp
      · omega
      · rw [if_neg c2] at hj; exact absurd rfl hj
    · by_cases c2 : j < w5.heap.size
      · omega
      · rw [a3 j (by omega)] at hj; exact absurd rfl hj
  · have hi0 : i = 0 := by simp at hi; omega
    subst hi0
    exact h1.below b25
  · have hi0 : i = 0 := by simp at hi; omega
    subst hi0
    refine ⟨?_, ?_, ?_, ?_, ?_⟩
    · show ow s.g = 4; rw [a0 _ l3, if_pos (.inl rfl)]
    · show ow s.gp = 4; rw [a0 _ l4, if_pos (.inr rfl)]
    · show ow s.p ≤ _; rw [a0 _ l1, if_neg (fun e => by rcases e with e | e; exact TyB.ne t77 t114 (by decide) e; exact TyB.ne t77 t56 (by decide) e)]; omega
    · show ow s.pm ≤ _; rw [a0 _ l2, if_neg (fun e => by rcases e with e | e; exact TyB.ne t113 t114 (by decide) e; exact TyB.ne t113 t56 (by decide) e)]; omega
    · show ow s.gb ≤ _; rw [a0 _ l5, if_neg (fun e => by rcases e with e | e; exact TyB.ne t3' t114 (by decide) e; exact TyB.ne t3' t56 (by decide) e)]; omega
  · have hi0 : i = 0 := by simp at hi; omega
    subst hi0
    exact (h2.below b4).mono fun j _ e => by
      obtain ⟨e1, e2, e3, e4⟩ := e
      show ow j = 1
      rw [a1 j e1 e2, if_neg (fun e => by rcases e with e | e; exact e3 e; exact e4 e)]
  · have hi0 : i = 0 := by simp at hi; omega
    subst hi0
    refine ⟨?_, ?_, ?_, ?_⟩
    · show ow q.g = 5; rw [a1 _ hqg m3, if_pos (.inl rfl)]
    · show ow q.gt = 5; rw [a1 _ hgt m4, if_pos (.inr rfl)]
    · show ow q.y ≤ 1; rw [a1 _ hy m1]; split; rename_i e; rcases e with e | e; exact absurd e (TyB.ne u81 u9 (by decide)); exact absurd e (TyB.ne u81 u50 (by decide)); omega
    · show ow q.m ≤ 1; rw [a1 _ hm m2]; split; rename_i e; rcases e with e | e; exact absurd e (TyB.ne u94 u9 (by decide)); exact absurd e (TyB.ne u94 u50 (by decide)); omega
  · exact ⟨rfl, .inr ⟨w3.heap.size, 1, #[.pointer (some ⟨s.p, 0, none⟩)], rfl, by omega, na2, Nat.le_refl _, by unfold maxLen; omega, rfl, rfl⟩⟩
  · injection hj with hj
    subst hj
    exact a2 w3.heap.size (Nat.le_refl _) (by omega)
  · exact ⟨rfl, .inr ⟨w3.heap.size + 1, 1, #[.pointer (some ⟨q.y, 0, none⟩)], rfl, by omega, nb, Nat.le_refl _, by unfold maxLen; omega, rfl, rfl⟩⟩
  · injection hj with hj
    subst hj
    exact a2 (w3.heap.size + 1) (by omega) (by omega)
end Go.Proofs.Ytedhefidfepclaa
