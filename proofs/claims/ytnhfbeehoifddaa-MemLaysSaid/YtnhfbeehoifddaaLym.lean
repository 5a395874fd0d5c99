/- What is written byte by byte, seen in the rows of the frames; rows of rows in the heap. No conditions. -/
import Derived.Test.YtnhfbeehoifddaaBcm
namespace Go.Proofs.Ytnhfbeehoifddaa
open Go.RowKit Go.Maps
set_option linter.unusedVariables false

theorem frameB_get (B : Bts) (f k : Nat) : (frameB B f)[k]? = if k < 256 then B[256 * f + k]? else none := by
  unfold frameB
  rw [List.getElem?_take]
  split
  · rw [List.getElem?_drop]
  · rfl
theorem wr_take (ps : List Pg) (s : Bts) (a : Int) (B : Bts) (i : Nat) (hi : i < s.length) : wr ps a (s.take (i + 1)) B = (wr ps a (s.take i) B).set (pos ps (a + i)) (s.getD i 0) := by
  rw [List.take_add_one, List.getElem?_eq_getElem hi, wr_append, List.length_take, Nat.min_eq_left (by omega)]
  rw [List.getD_eq_getElem?_getD, List.getElem?_eq_getElem hi]
  rfl
theorem frameB_set (B : Bts) (p : Nat) (x : UInt8) (f : Nat) : frameB (B.set p x) f = if p / 256 = f then (frameB B f).set (p % 256) x else frameB B f := by
  apply List.ext_getElem?
  intro k
  by_cases e : p / 256 = f
  · rw [if_pos e, List.getElem?_set, frameB_get, frameB_get]
    by_cases hk : k < 256
    · rw [if_pos hk, if_pos hk, List.getElem?_set]
      have hl : (frameB B f).length = min 256 (B.length - 256 * f) := by unfold frameB; rw [List.length_take, List.length_drop]
      by_cases h : p = 256 * f + k
      · rw [if_pos h, if_pos (show p % 256 = k by omega)]
        by_cases h2 : p < B.length
        · rw [if_pos h2, if_pos (by omega)]
        · rw [if_neg h2, if_neg (by omega)]
      · rw [if_neg h, if_neg (show ¬ p % 256 = k by omega)]
    · rw [if_neg hk, if_neg hk, if_neg (show ¬ p % 256 = k by omega)]
  · rw [if_neg e, frameB_get, frameB_get]
    split
    · rw [List.getElem?_set, if_neg (by omega)]
    · rfl
/-- a header -/
def hd (h : Nat × Nat) : Value := .slice (some ⟨h.1, 0, none⟩) 256 h.2
/-- each row is a block of its own, at b0 or above, and holds its bytes -/
structure RR (W : World) (b0 gg : Nat) (hs : List (Nat × Nat)) (bs : Nat → Bts) : Prop where
  row : ∀ i (h : i < hs.length), RowB 5 W hs[i].1 hs[i].2 (bs i) ∧ b0 ≤ hs[i].1 ∧ hs[i].1 ≠ gg
  inj : ∀ i j (hi : i < hs.length) (hj : j < hs.length), i ≠ j → hs[i].1 ≠ hs[j].1
theorem RR.nil (W : World) (b0 gg : Nat) (bs : Nat → Bts) : RR W b0 gg [] bs := ⟨fun i h => absurd h (Nat.not_lt_zero _), fun i j h => absurd h (Nat.not_lt_zero _)⟩
theorem RR.same {W W' : World} {b0 gg : Nat} {hs : List (Nat × Nat)} {bs : Nat → Bts} (h : RR W b0 gg hs bs) (e : ∀ k, k < W.heap.size → k ≠ gg → b0 ≤ k → W'.heap[k]? = W.heap[k]?) : RR W' b0 gg hs bs :=
  ⟨fun i hi => ⟨(h.row i hi).1.of_heap (e _ (h.row i hi).1.lt (h.row i hi).2.2 (h.row i hi).2.1), (h.row i hi).2⟩, h.inj⟩
/-- a row more, and perhaps the headers moved -/
theorem RR.snoc {W W' : World} {b0 gg g' : Nat} {hs : List (Nat × Nat)} {bs : Nat → Bts} (h : RR W b0 gg hs bs) (x : Nat × Nat)
    (e : ∀ k, k < W.heap.size → k ≠ gg → b0 ≤ k → W'.heap[k]? = W.heap[k]?) (hx : RowB 5 W' x.1 x.2 (bs hs.length)) (hnew : W.heap.size ≤ x.1) (hb : b0 ≤ x.1) (hg : g' = gg ∨ W.heap.size ≤ g') (hxg : x.1 ≠ g') : RR W' b0 g' (hs ++ [x]) bs := by
  refine ⟨fun i hi => ?_, fun i j hi hj hij => ?_⟩
  · by_cases z : i < hs.length
    · have q := h.row i z
      rw [List.getElem_append_left z]
      have hlt := q.1.lt
      refine ⟨q.1.of_heap (e _ hlt q.2.2 q.2.1), q.2.1, ?_⟩
      rcases hg with rfl | hg
      · exact q.2.2
      · omega
    · have hi2 : i = hs.length := by simp at hi; omega
      subst hi2
      rw [List.getElem_append_right (Nat.le_refl _)]
      simp
      exact ⟨hx, hb, hxg⟩
  · have old : ∀ t (ht : t < hs.length), hs[t].1 < W.heap.size := fun t ht => (h.row t ht).1.lt
    by_cases zi : i < hs.length
    · rw [List.getElem_append_left zi]
      by_cases zj : j < hs.length
      · rw [List.getElem_append_left zj]; exact h.inj i j zi zj hij
      · rw [List.getElem_append_right (by omega)]
        have := old i zi
        simp; omega
    · rw [List.getElem_append_right (by omega)]
      have hj2 : j < hs.length := by simp at hi hj; omega
      rw [List.getElem_append_left hj2]
      have := old j hj2
      simp; omega
/-- a byte of one row is stored -/
theorem RR.put {W : World} {b0 gg : Nat} {hs : List (Nat × Nat)} {bs : Nat → Bts} (h : RR W b0 gg hs bs) (f : Nat) (hf : f < hs.length) (o : Nat) (ho : o < (bs f).length) (x : UInt8) :
    RR (W.setCell ⟨hs[f].1, o, none⟩ (cellB x)) b0 gg hs (fun i => if i = f then (bs f).set o x else bs i) := by
  refine ⟨fun i hi => ?_, h.inj⟩
  have q := h.row i hi
  refine ⟨?_, q.2⟩
  by_cases z : i = f
  · subst z
    rw [if_pos rfl]
    exact q.1.put o ho x
  · rw [if_neg z]
    have hne := h.inj i f hi hf z
    refine q.1.of_heap ?_
    exact Below.heap_setCell _ _ _ _ hne
end Go.Proofs.Ytnhfbeehoifddaa
