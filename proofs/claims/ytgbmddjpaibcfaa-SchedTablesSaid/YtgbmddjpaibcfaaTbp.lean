/- Tables side by side with the document's: the states, and what keeps them; the place of a table. -/
import Derived.Test.YtgbmddjpaibcfaaTbu
import Derived.Test.YtgbmddjpaibcfaaApt
namespace Go.Proofs.Ytgbmddjpaibcfaa
open Go.RowKit Go.Maps
set_option linter.unusedVariables false
set_option linter.unusedSimpArgs false

structure Rec where
  p : Nat
  g : Nat
  q : Nat
  r : Nat
  s : Nat
  ss : List Stt
def r00 : Rec := ⟨0, 0, 0, 0, 0, []⟩
def ptX (R : List Rec) : List Value := R.map fun x => .pointer (some ⟨x.p, 0, none⟩)
def ptY (R : List Rec) : List Value := R.map fun x => .pointer (some ⟨x.q, 0, none⟩)
def TyB (w : World) (b t : Nat) : Prop := ∃ cur f, w.heap[b]? = some (.cells cur t f)
theorem TyB.ne {w : World} {a b t u : Nat} (h : TyB w a t) (k : TyB w b u) (e : t ≠ u) : a ≠ b := by
  obtain ⟨c, f, h⟩ := h
  obtain ⟨d, f2, k⟩ := k
  intro x; subst x; rw [h] at k; injection k with k; injection k with k1 k2; exact e k2
theorem TyB.lt {w : World} {a t : Nat} (h : TyB w a t) : a < w.heap.size := by
  obtain ⟨c, f, h⟩ := h; exact block_lt h
theorem IsU.ty {w : World} {p g : Nat} {ss : List Stt} (h : IsU w p g ss) : TyB w p 77 ∧ TyB w g 84 := by
  obtain ⟨_, a⟩ := h.blk
  obtain ⟨_, b, _⟩ := h.row
  exact ⟨⟨_, _, a⟩, ⟨_, _, b⟩⟩
theorem IsR.ty {w : World} {q r s : Nat} {ss : List Stt} (h : IsR w q r s ss) : TyB w q 81 ∧ TyB w r 4 ∧ TyB w s 3 := by
  obtain ⟨_, _, a⟩ := h.blk
  obtain ⟨_, b, _⟩ := h.run
  obtain ⟨_, c, _⟩ := h.sta
  exact ⟨⟨_, _, a⟩, ⟨_, _, b⟩, ⟨_, _, c⟩⟩
theorem own_ty {w : World} {b e n : Nat} {v : Value} {xs : List Value} (h : w.ownsRow b e 1 v n xs) : ∀ j, v.ownBlock = some j → TyB w j e := by
  rcases h.2 with ⟨e1, _⟩ | ⟨g, c, cur, e1, _, hg, _⟩
  · rw [e1]; intro j hj; cases hj
  · rw [e1]; intro j hj; injection hj with hj; subst hj; exact ⟨_, _, hg⟩
theorem own_keep {w W : World} {b e n : Nat} {v : Value} {xs : List Value} (h : w.ownsRow b e 1 v n xs) (hk : ∀ j, TyB w j e → W.heap[j]? = w.heap[j]?) : W.ownsRow b e 1 v n xs := by
  refine ⟨h.1, ?_⟩
  rcases h.2 with e1 | ⟨g, c, cur, e1, h1, hg, h2⟩
  · exact .inl e1
  · exact .inr ⟨g, c, cur, e1, h1, (hk g ⟨_, _, hg⟩).trans hg, h2⟩
theorem own_at {w : World} {b e n : Nat} {v : Value} {xs : List Value} (h : w.ownsRow b e 1 v n xs) {i : Nat} (hi : i < n) : ∃ g cap, v = .slice (some ⟨g, 0, none⟩) n cap ∧ TyB w g e ∧ ∀ u, xs[i]? = some u → w.cell? ⟨g, i, none⟩ = some u := by
  rcases h.2 with ⟨_, e1⟩ | ⟨g, c, cur, e1, h1, hg, _, _, _, htk⟩
  · omega
  · refine ⟨g, c, e1, ⟨_, _, hg⟩, fun u hu => ?_⟩
    rw [← htk, List.getElem?_take, if_pos (by omega), Array.getElem?_toList] at hu
    rw [cell_of_row _ _ _ _ _ _ hg]; exact hu
theorem rec_set (R : List Rec) (i j : Nat) (v : Rec) (hi : i < R.length) : (R.set i v).getD j r00 = if i = j then v else R.getD j r00 := by
  rw [List.getD_eq_getElem?_getD, List.getD_eq_getElem?_getD, List.getElem?_set]
  split
  · rename_i e; rfl
  · rfl
theorem rec_app (R : List Rec) (v : Rec) (j : Nat) (hj : j < (R ++ [v]).length) : (R ++ [v]).getD j r00 = if j < R.length then R.getD j r00 else v := by
  rw [List.getD_eq_getElem?_getD, List.getD_eq_getElem?_getD]
  split
  · rename_i e; rw [List.getElem?_append_left e]
  · rename_i e
    rw [List.length_append] at hj
    simp at hj
    rw [List.getElem?_append_right (by omega), show j - R.length = 0 by omega]; rfl
/-- the tables' states -/
structure Rcs (n0 k : Nat) (w : World) (R : List Rec) : Prop where
  u : ∀ i, i < R.length → IsU w (R.getD i r00).p (R.getD i r00).g (R.getD i r00).ss
  d : ∀ i, i < R.length → IsR w (R.getD i r00).q (R.getD i r00).r (R.getD i r00).s (R.getD i r00).ss
  b : ∀ i, i < R.length → n0 ≤ (R.getD i r00).g ∧ n0 ≤ (R.getD i r00).r ∧ n0 ≤ (R.getD i r00).s ∧ (R.getD i r00).ss.length ≤ 8 ∧ BndT k (R.getD i r00).ss
  sep : ∀ i j, i < R.length → j < R.length → i ≠ j → (R.getD i r00).g ≠ (R.getD j r00).g ∧ (R.getD i r00).r ≠ (R.getD j r00).r ∧ (R.getD i r00).s ≠ (R.getD j r00).s
def okTy (t : Nat) : Prop := t = 77 ∨ t = 84 ∨ t = 81 ∨ t = 4 ∨ t = 3
theorem Rcs.keep {n0 k : Nat} {w W : World} {R : List Rec} (h : Rcs n0 k w R) (hk : ∀ b t, okTy t → TyB w b t → W.heap[b]? = w.heap[b]?) : Rcs n0 k W R := by
  refine ⟨fun i hi => ?_, fun i hi => ?_, h.b, h.sep⟩
  · obtain ⟨a, b⟩ := (h.u i hi).ty
    exact (h.u i hi).of_heap (hk _ 77 (by unfold okTy; omega) a) (hk _ 84 (by unfold okTy; omega) b)
  · obtain ⟨a, b, c⟩ := (h.d i hi).ty
    exact (h.d i hi).of_heap (hk _ 81 (by unfold okTy; omega) a) (hk _ 4 (by unfold okTy; omega) b) (hk _ 3 (by unfold okTy; omega) c)
theorem Rcs.below {n0 k : Nat} {w W : World} {R : List Rec} (h : Rcs n0 k w R) (hb : Below w.heap.size w W) : Rcs n0 k W R := h.keep fun b t _ ht => hb.block b ht.lt
theorem Rcs.next {n0 k : Nat} {w : World} {R : List Rec} (h : Rcs n0 k w R) : Rcs n0 (k + 1) w R := ⟨h.u, h.d, fun i hi => ⟨(h.b i hi).1, (h.b i hi).2.1, (h.b i hi).2.2.1, (h.b i hi).2.2.2.1, bnd_next (h.b i hi).2.2.2.2⟩, h.sep⟩
theorem Rcs.grown {n0 k e : Nat} {w W : World} {R : List Rec} {v : Value} {n : Nat} {xs : List Value} (h : Rcs n0 k w R) (ho : w.ownsRow n0 e 1 v n xs) (he : ¬ okTy e) (hg : w.grownBy W v.ownBlock) : Rcs n0 k W R :=
  h.keep fun b t ht hb => hg.block b hb.lt fun x => (own_ty ho b x.symm).ne hb (fun y => he (y ▸ ht)) rfl
theorem own_grown {n0 e f : Nat} {w W : World} {v u : Value} {n m : Nat} {xs ys : List Value} (h : w.ownsRow n0 f 1 u m ys) (ho : w.ownsRow n0 e 1 v n xs) (he : e ≠ f) (hg : w.grownBy W v.ownBlock) : W.ownsRow n0 f 1 u m ys :=
  own_keep h fun b hb => hg.block b hb.lt fun x => (own_ty ho b x.symm).ne hb he rfl
theorem Rcs.step {n0 k i : Nat} {w W1 W2 : World} {R : List Rec} (h : Rcs n0 k w R) (hi : i < R.length) (S : List Stt) (hC1 : Ch (onB (R.getD i r00).g) w W1) (hU : IsU W1 (R.getD i r00).p (R.getD i r00).g S)
    (hC2 : Ch (onR (R.getD i r00).r (R.getD i r00).s) W1 W2) (hR : IsR W2 (R.getD i r00).q (R.getD i r00).r (R.getD i r00).s S) (hlen : S.length = (R.getD i r00).ss.length) (hB : BndT (k + 1) S) : Rcs n0 (k + 1) W2 (R.set i { R.getD i r00 with ss := S }) := by
  obtain ⟨tp, tg⟩ := (h.u i hi).ty
  obtain ⟨tq, tr, ts⟩ := (h.d i hi).ty
  have kp : ∀ b, b < w.heap.size → b ≠ (R.getD i r00).g → b ≠ (R.getD i r00).r → b ≠ (R.getD i r00).s → W2.heap[b]? = w.heap[b]? := fun b hb h1 h2 h3 =>
    (hC2.block b (Nat.lt_of_lt_of_le hb hC1.size) (by rintro (e | e) <;> contradiction)).trans (hC1.block b hb (show ¬ b = _ from h1))
  have kp1 : ∀ b, b < w.heap.size → b ≠ (R.getD i r00).r → b ≠ (R.getD i r00).s → W2.heap[b]? = W1.heap[b]? := fun b hb h2 h3 =>
    hC2.block b (Nat.lt_of_lt_of_le hb hC1.size) (by rintro (e | e) <;> contradiction)
  refine ⟨fun j hj => ?_, fun j hj => ?_, fun j hj => ?_, fun j m hj hm hne => ?_⟩
  · rw [List.length_set] at hj
    rw [rec_set _ _ _ _ hi]
    split
    · exact hU.of_heap (kp1 _ tp.lt (tp.ne tr (by decide)) (tp.ne ts (by decide))) (kp1 _ tg.lt (tg.ne tr (by decide)) (tg.ne ts (by decide)))
    · rename_i e
      obtain ⟨a, b⟩ := (h.u j hj).ty
      exact (h.u j hj).of_heap (kp _ a.lt (a.ne tg (by decide)) (a.ne tr (by decide)) (a.ne ts (by decide))) (kp _ b.lt (Ne.symm (h.sep i j hi hj e).1) (b.ne tr (by decide)) (b.ne ts (by decide)))
  · rw [List.length_set] at hj
    rw [rec_set _ _ _ _ hi]
    split
    · exact hR
    · rename_i e
      obtain ⟨a, b, c⟩ := (h.d j hj).ty
      exact (h.d j hj).of_heap (kp _ a.lt (a.ne tg (by decide)) (a.ne tr (by decide)) (a.ne ts (by decide))) (kp _ b.lt (b.ne tg (by decide)) (Ne.symm (h.sep i j hi hj e).2.1) (b.ne ts (by decide))) (kp _ c.lt (c.ne tg (by decide)) (c.ne tr (by decide)) (Ne.symm (h.sep i j hi hj e).2.2))
  · rw [List.length_set] at hj
    rw [rec_set _ _ _ _ hi]
    split
    · obtain ⟨a1, a2, a3, a4, _⟩ := h.b i hi
      exact ⟨a1, a2, a3, by show S.length ≤ 8; omega, hB⟩
    · exact (h.next).b j hj
  · rw [List.length_set] at hj hm
    rw [rec_set _ _ _ _ hi, rec_set _ _ _ _ hi]
    by_cases e1 : i = j
    · rw [if_pos e1, if_neg (by omega)]
      exact h.sep i m hi hm (by omega)
    · rw [if_neg e1]
      by_cases e2 : i = m
      · rw [if_pos e2]
        exact h.sep j i hj hi (by omega)
      · rw [if_neg e2]
        exact h.sep j m hj hm hne
theorem Rcs.snoc {n0 k m : Nat} {w : World} {R : List Rec} (h : Rcs n0 k w R) (x : Rec) (hU : IsU w x.p x.g x.ss) (hR : IsR w x.q x.r x.s x.ss) (hb : n0 ≤ x.g ∧ n0 ≤ x.r ∧ n0 ≤ x.s ∧ x.ss.length ≤ 8 ∧ BndT k x.ss)
    (hm : ∀ i, i < R.length → (R.getD i r00).g < m ∧ (R.getD i r00).r < m ∧ (R.getD i r00).s < m) (hx : m ≤ x.g ∧ m ≤ x.r ∧ m ≤ x.s) : Rcs n0 k w (R ++ [x]) := by
  refine ⟨fun i hi => ?_, fun i hi => ?_, fun i hi => ?_, fun i j hi hj hne => ?_⟩
  · rw [rec_app _ _ _ hi]; split
    · rename_i e; exact h.u i e
    · exact hU
  · rw [rec_app _ _ _ hi]; split
    · rename_i e; exact h.d i e
    · exact hR
  · rw [rec_app _ _ _ hi]; split
    · rename_i e; exact h.b i e
    · exact hb
  · rw [rec_app _ _ _ hi, rec_app _ _ _ hj]
    rw [List.length_append] at hi hj
    simp at hi hj
    split
    · rename_i e1; split
      · rename_i e2; exact h.sep i j e1 e2 hne
      · obtain ⟨a, b, c⟩ := hm i e1; exact ⟨by omega, by omega, by omega⟩
    · rename_i e1; split
      · rename_i e2; obtain ⟨a, b, c⟩ := hm j e2; exact ⟨by omega, by omega, by omega⟩
      · omega
theorem ptX_at {R : List Rec} {i : Nat} (h : i < R.length) : (ptX R)[i]? = some (.pointer (some ⟨(R.getD i r00).p, 0, none⟩)) := by
  unfold ptX; rw [List.getElem?_map, List.getElem?_eq_getElem h, List.getD_eq_getElem?_getD, List.getElem?_eq_getElem h]; rfl
theorem ptY_at {R : List Rec} {i : Nat} (h : i < R.length) : (ptY R)[i]? = some (.pointer (some ⟨(R.getD i r00).q, 0, none⟩)) := by
  unfold ptY; rw [List.getElem?_map, List.getElem?_eq_getElem h, List.getD_eq_getElem?_getD, List.getElem?_eq_getElem h]; rfl
theorem ptX_set (R : List Rec) (i : Nat) (hi : i < R.length) (S : List Stt) : ptX (R.set i { R.getD i r00 with ss := S }) = ptX R := by
  apply List.ext_getElem?
  intro j
  unfold ptX
  rw [List.getElem?_map, List.getElem?_map, List.getElem?_set]
  split
  · rename_i e; subst e; rw [List.getD_eq_getElem?_getD, List.getElem?_eq_getElem hi]; rfl
  · rfl
theorem ptY_set (R : List Rec) (i : Nat) (hi : i < R.length) (S : List Stt) : ptY (R.set i { R.getD i r00 with ss := S }) = ptY R := by
  apply List.ext_getElem?
  intro j
  unfold ptY
  rw [List.getElem?_map, List.getElem?_map, List.getElem?_set]
  split
  · rename_i e; subst e; rw [List.getD_eq_getElem?_getD, List.getElem?_eq_getElem hi]; rfl
  · rfl
/-- tables and the two rows of pointers to them -/
def Sts (n0 k : Nat) (w0 w : World) (xv yv : Value) (R : List Rec) : Prop :=
  Rcs n0 k w R ∧ w.ownsRow n0 43 1 xv R.length (ptX R) ∧ w.ownsRow n0 46 1 yv R.length (ptY R) ∧ Below n0 w0 w ∧ 0 < R.length ∧ R.length ≤ k + 1
set_option maxHeartbeats 1000000 in
theorem place_any (on : Int) (m : Nat) (h0 : 0 < m) (h1 : m ≤ 4611686018427387904) (ho : -9223372036854775808 ≤ on ∧ on ≤ 9223372036854775807) :
    ∃ j : Nat, j < m ∧ ∀ w, Calls Try.prog 21 #[.int .i64 on, .int .i64 (m : Int)] w fun e w' => e = .returned (.int .i64 (j : Int)) ∧ w = w' := by
  obtain ⟨M, hM⟩ : ∃ M : Int, M = (m : Int) := ⟨_, rfl⟩
  have m0 : 0 < M := by omega
  have hz : ¬ M = 0 := by omega
  obtain ⟨t, ht⟩ : ∃ t, t = on.tmod M := ⟨_, rfl⟩
  have t1 : -M < t ∧ t < M := by
    have a := Int.tmod_lt_of_pos on m0
    have b := Int.tmod_lt_of_pos (-on) m0
    rw [Int.neg_tmod] at b
    omega
  have wt : IntKind.i64.wrap (on.tmod M) = t := by rw [← ht]; exact IntWalk.i64_in _ (by omega)
  have jj : ∃ j : Nat, j < m ∧ (j : Int) = if t < 0 then t + M else t := by
    refine ⟨(if t < 0 then t + M else t).toNat, ?_, ?_⟩
    · split <;> omega
    · split <;> omega
  obtain ⟨j, hj, hjt⟩ := jj
  refine ⟨j, hj, fun w => ?_⟩
  have q1 : IntKind.i64.wrap (t + M) = t + M := IntWalk.i64_in _ (by omega)
  have q2 : wrap64 (t + M) = t + M := w64 (by omega)
  rw [← hM]
  have hte : on.tmod M = t := ht.symm
  have m1 : (M == 0) = false := by simpa using hz
  clear hj h0 h1 ho t1 ht hM m0
  by_cases c : t < 0
  · rw [if_pos c] at hjt
    rw [hjt]
    go_enter Try.func21, Try.ntmps21
    go_wp2
    go_ret
    all_goals exact ⟨rfl, rfl⟩
  · rw [if_neg c] at hjt
    rw [hjt]
    go_enter Try.func21, Try.ntmps21
    go_wp2
    go_ret
    exact ⟨rfl, rfl⟩
end Go.Proofs.Ytgbmddjpaibcfaa
