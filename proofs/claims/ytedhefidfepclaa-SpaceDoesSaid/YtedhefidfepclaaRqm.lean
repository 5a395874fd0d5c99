/- Spaces side by side with the document's: the states, and what a call on each leaves. No conditions. -/
import Derived.Test.YtedhefidfepclaaRqk
namespace Go.Proofs.Ytedhefidfepclaa
open Go.RowKit Go.Maps
set_option linter.unusedVariables false
set_option linter.unusedSimpArgs false

def TyB (w : World) (b t : Nat) : Prop := ∃ cur f, w.heap[b]? = some (.cells cur t f)
theorem TyB.ne {w : World} {a b t u : Nat} (h : TyB w a t) (k : TyB w b u) (e : t ≠ u) : a ≠ b := by
  obtain ⟨c, f, h⟩ := h
  obtain ⟨d, f2, k⟩ := k
  intro x; subst x; rw [h] at k; injection k with k; injection k with k1 k2; exact e k2
theorem TyB.lt {w : World} {a t : Nat} (h : TyB w a t) : a < w.heap.size := by
  obtain ⟨c, f, h⟩ := h; exact block_lt h
theorem rown_ty {w : World} {b e n : Nat} {v : Value} {xs : List Value} (h : w.ownsRow b e 1 v n xs) : ∀ j, v.ownBlock = some j → TyB w j e ∧ b ≤ j := by
  rcases h.2 with ⟨e1, _⟩ | ⟨g, c, cur, e1, hb, hg, _⟩
  · rw [e1]; intro j hj; cases hj
  · rw [e1]; intro j hj; injection hj with hj; subst hj; exact ⟨⟨_, _, hg⟩, hb⟩
theorem rown_keep {w W : World} {b e n : Nat} {v : Value} {xs : List Value} (h : w.ownsRow b e 1 v n xs) (hk : ∀ j, v.ownBlock = some j → TyB w j e → W.heap[j]? = w.heap[j]?) : W.ownsRow b e 1 v n xs := by
  refine ⟨h.1, ?_⟩
  rcases h.2 with e1 | ⟨g, c, cur, e1, h1, hg, h2⟩
  · exact .inl e1
  · exact .inr ⟨g, c, cur, e1, h1, (hk g (by rw [e1]; rfl) ⟨_, _, hg⟩).trans hg, h2⟩
theorem rown_base {w : World} {b c e n : Nat} {v : Value} {xs : List Value} (h : w.ownsRow b e 1 v n xs) (hc : ∀ j, v.ownBlock = some j → c ≤ j) : w.ownsRow c e 1 v n xs := by
  refine ⟨h.1, ?_⟩
  rcases h.2 with e1 | ⟨g, cp, cur, e1, h1, hg, h2⟩
  · exact .inl e1
  · exact .inr ⟨g, cp, cur, e1, hc g (by rw [e1]; rfl), hg, h2⟩
theorem rown_below {w W : World} {b e n : Nat} {v : Value} {xs : List Value} (h : w.ownsRow b e 1 v n xs) (hb : Below w.heap.size w W) : W.ownsRow b e 1 v n xs := rown_keep h fun j _ hj => hb.block j hj.lt
theorem rown_slice {w : World} {b e n : Nat} {v : Value} {xs : List Value} (h : w.ownsRow b e 1 v n xs) : ∃ q cap, v = .slice q n cap ∧ (0 < n → ∃ g, q = some ⟨g, 0, none⟩ ∧ ∀ i u, xs[i]? = some u → w.cell? ⟨g, i, none⟩ = some u) := by
  rcases h.2 with ⟨e1, e2⟩ | ⟨g, c, cur, e1, h1, hg, _, _, _, htk⟩
  · exact ⟨none, 0, by rw [e1, e2], fun h => by omega⟩
  · refine ⟨_, c, e1, fun _ => ⟨g, rfl, fun i u hu => ?_⟩⟩
    have hi : i < n := by
      have := (List.getElem?_eq_some_iff.1 hu).1
      rw [h.1] at this; omega
    rw [← htk, List.getElem?_take, if_pos (by omega), Array.getElem?_toList] at hu
    rw [cell_of_row _ _ _ _ _ _ hg]; exact hu
/-- whose a block is, when those from a to b are new and t's -/
def upd (own : Nat → Nat) (a b t : Nat) : Nat → Nat := fun j => if a ≤ j ∧ j < b then t else own j
theorem upd_new {own : Nat → Nat} {a b t j : Nat} (h : a ≤ j ∧ j < b) : upd own a b t j = t := if_pos h
theorem upd_old {own : Nat → Nat} {a b t j : Nat} (h : j < a) : upd own a b t j = own j := if_neg (by omega)
theorem IsS.keep {w w' : World} {s : SpAt} {B : Bts} {ns : List Nat} {ps : List Pg} (h : IsS w s B ns ps) (e1 : w'.heap[s.p]? = w.heap[s.p]?) (e2 : w'.heap[s.pm]? = w.heap[s.pm]?) (e3 : w'.heap[s.g]? = w.heap[s.g]?) (e4 : w'.heap[s.gp]? = w.heap[s.gp]?) (e5 : w'.heap[s.gb]? = w.heap[s.gb]?) : IsS w' s B ns ps := by
  obtain ⟨c1, hp, hp2⟩ := h.pgs
  obtain ⟨c2, hq, hq2⟩ := h.bds
  exact ⟨e1.trans h.blk, h.mem.of_heap e2 e3, ⟨c1, e4.trans hp, hp2⟩, ⟨c2, e5.trans hq, hq2⟩, h.sum, h.room, h.few, h.each⟩
theorem IsQ.mono {w : World} {G H : Nat → Prop} {q : QAt} {B : Bts} {ns : List Nat} {ps : List Pg} (h : IsQ w G q B ns ps) (e : ∀ k, k < w.heap.size → G k → H k) : IsQ w H q B ns ps := by
  obtain ⟨cur, ht, hc⟩ := h.tab
  refine ⟨h.blk, h.mem, ⟨cur, ht, fun k hk => ?_⟩, h.sum, h.few, h.each⟩
  obtain ⟨v, h1, h2⟩ := hc k hk
  exact ⟨v, h1, tabV_mono h2 e⟩
/-- a space and the document's, in one state -/
structure Rec where
  s : SpAt
  q : QAt
  B : Bts
  ps : List Pg
def r00 : Rec := ⟨⟨0, 0, 0, 0, 0, 0, 0, 0⟩, ⟨0, 0, 0, 0, 0, 0⟩, [], []⟩
def pX (R : List Rec) : List Value := R.map fun x => .pointer (some ⟨x.s.p, 0, none⟩)
def pY (R : List Rec) : List Value := R.map fun x => .pointer (some ⟨x.q.y, 0, none⟩)
theorem rec_set (R : List Rec) (i j : Nat) (v : Rec) (hi : i < R.length) : (R.set i v).getD j r00 = if i = j then v else R.getD j r00 := by
  rw [List.getD_eq_getElem?_getD, List.getD_eq_getElem?_getD, List.getElem?_set]
  split
  · rename_i e; rfl
  · rfl
theorem rec_app (R : List Rec) (v : Rec) (j : Nat) (hj : j < R.length + 1) : (R ++ [v]).getD j r00 = if j < R.length then R.getD j r00 else v := by
  rw [List.getD_eq_getElem?_getD, List.getD_eq_getElem?_getD]
  split
  · rename_i e; rw [List.getElem?_append_left e]
  · rename_i e
    rw [List.getElem?_append_right (by omega), show j - R.length = 0 by omega]; rfl
theorem pX_at {R : List Rec} {i : Nat} (h : i < R.length) : (pX R)[i]? = some (.pointer (some ⟨(R.getD i r00).s.p, 0, none⟩)) := by
  unfold pX; rw [List.getElem?_map, List.getElem?_eq_getElem h, List.getD_eq_getElem?_getD, List.getElem?_eq_getElem h]; rfl
theorem pY_at {R : List Rec} {i : Nat} (h : i < R.length) : (pY R)[i]? = some (.pointer (some ⟨(R.getD i r00).q.y, 0, none⟩)) := by
  unfold pY; rw [List.getElem?_map, List.getElem?_eq_getElem h, List.getD_eq_getElem?_getD, List.getElem?_eq_getElem h]; rfl
theorem pX_set (R : List Rec) (i : Nat) (hi : i < R.length) (v : Rec) (hv : v.s.p = (R.getD i r00).s.p) : pX (R.set i v) = pX R := by
  apply List.ext_getElem?
  intro j
  unfold pX
  rw [List.getElem?_map, List.getElem?_map, List.getElem?_set]
  split
  · rename_i e; subst e; rw [List.getElem?_eq_getElem hi]; simp only [Option.map_some]; rw [hv, List.getD_eq_getElem?_getD, List.getElem?_eq_getElem hi]; rfl
  · rfl
theorem pY_set (R : List Rec) (i : Nat) (hi : i < R.length) (v : Rec) (hv : v.q.y = (R.getD i r00).q.y) : pY (R.set i v) = pY R := by
  apply List.ext_getElem?
  intro j
  unfold pY
  rw [List.getElem?_map, List.getElem?_map, List.getElem?_set]
  split
  · rename_i e; subst e; rw [List.getElem?_eq_getElem hi]; simp only [Option.map_some]; rw [hv, List.getD_eq_getElem?_getD, List.getElem?_eq_getElem hi]; rfl
  · rfl
/-- spaces, the document's spaces, and the two rows of pointers. own: the document's tables' rows 1, the rows of pointers 3, what the i-th space writes 2 i + 4, what the document's i-th writes 2 i + 5 -/
structure Stt (n0 k : Nat) (ns : List Nat) (w0 W : World) (xv yv : Value) (own : Nat → Nat) (R : List Rec) : Prop where
  hn : n0 ≤ w0.heap.size
  bel : RowKit.Below n0 w0 W
  dom : ∀ j, own j ≠ 0 → n0 ≤ j ∧ j < W.heap.size
  u : ∀ i, i < R.length → IsS W (R.getD i r00).s (R.getD i r00).B ns (R.getD i r00).ps
  ug : ∀ i, i < R.length → own (R.getD i r00).s.g = 2 * i + 4 ∧ own (R.getD i r00).s.gp = 2 * i + 4 ∧ own (R.getD i r00).s.p ≤ 1 ∧ own (R.getD i r00).s.pm ≤ 1 ∧ own (R.getD i r00).s.gb ≤ 1
  d : ∀ i, i < R.length → IsQ W (fun j => own j = 1) (R.getD i r00).q (R.getD i r00).B ns (R.getD i r00).ps
  dg : ∀ i, i < R.length → own (R.getD i r00).q.g = 2 * i + 5 ∧ own (R.getD i r00).q.gt = 2 * i + 5 ∧ own (R.getD i r00).q.y ≤ 1 ∧ own (R.getD i r00).q.m ≤ 1
  x : W.ownsRow n0 24 1 xv R.length (pX R)
  xo : ∀ j, xv.ownBlock = some j → own j = 3
  y : W.ownsRow n0 28 1 yv R.length (pY R)
  yo : ∀ j, yv.ownBlock = some j → own j = 3
  pos : 0 < R.length
  le : R.length ≤ k + 1
section
variable {n0 k : Nat} {ns : List Nat} {w0 W : World} {xv yv : Value} {own : Nat → Nat} {R : List Rec}
theorem Stt.below {W' : World} (h : Stt n0 k ns w0 W xv yv own R) (hb : Below W.heap.size W W') : Stt n0 k ns w0 W' xv yv own R :=
  ⟨h.hn, h.bel.trans (hb.mono (Nat.le_trans h.hn h.bel.size)), fun j hj => ⟨(h.dom j hj).1, Nat.lt_of_lt_of_le (h.dom j hj).2 hb.size⟩, fun i hi => (h.u i hi).below hb, h.ug, fun i hi => (h.d i hi).below hb, h.dg, rown_below h.x hb, h.xo, rown_below h.y hb, h.yo, h.pos, h.le⟩
theorem Stt.next (h : Stt n0 k ns w0 W xv yv own R) : Stt n0 (k + 1) ns w0 W xv yv own R :=
  ⟨h.hn, h.bel, h.dom, h.u, h.ug, h.d, h.dg, h.x, h.xo, h.y, h.yo, h.pos, Nat.le_succ_of_le h.le⟩
/-- the same call on the i-th space and on the document's: what is left -/
theorem Stt.both {W' w1 W1 w2 : World} {i : Nat} {B' : Bts} {ps' : List Pg} (h : Stt n0 k ns w0 W xv yv own R) (hi : i < R.length) (hb : Below W.heap.size W W') (h1 : IsS w1 (R.getD i r00).s B' ns ps') (c1 : Ch (onS (R.getD i r00).s) W' w1) (hb1 : Below w1.heap.size w1 W1)
    (h2 : IsQ w2 (nwG (fun j => own j = 1) W1 w2) (R.getD i r00).q B' ns ps') (c2 : Ch (onQ (R.getD i r00).q) W1 w2) :
    Stt n0 k ns w0 w2 xv yv (upd own W1.heap.size w2.heap.size 1) (R.set i { R.getD i r00 with B := B', ps := ps' }) := by
  have h' := h.below hb
  have s1 := c1.size
  have s2 := hb1.size
  have s3 := c2.size
  have hnW : n0 ≤ W'.heap.size := Nat.le_trans h.hn h'.bel.size
  obtain ⟨g1, g2, g3, g4, g5⟩ := h.ug i hi
  obtain ⟨d1, d2, d3, d4⟩ := h.dg i hi
  have old : ∀ j, j < W'.heap.size → upd own W1.heap.size w2.heap.size 1 j = own j := fun j hj => upd_old (by omega)
  have dlt : ∀ j, own j ≠ 0 → j < W'.heap.size := fun j hj => (h'.dom j hj).2
  have kp1 : ∀ b, b < W'.heap.size → own b ≠ 2 * i + 4 → W1.heap[b]? = W'.heap[b]? := fun b x1 x2 => (hb1.block b (by omega)).trans (c1.block b x1 fun e => by
    rcases e with e | e <;> (rw [e] at x2; omega))
  have kp2 : ∀ b, b < W1.heap.size → own b ≠ 2 * i + 5 → w2.heap[b]? = W1.heap[b]? := fun b x1 x2 => c2.block b x1 fun e => by
    rcases e with e | e <;> (rw [e] at x2; omega)
  have kp : ∀ b, b < W'.heap.size → own b ≠ 2 * i + 4 → own b ≠ 2 * i + 5 → w2.heap[b]? = W'.heap[b]? := fun b x1 x2 x3 => (kp2 b (by omega) x3).trans (kp1 b x1 x2)
  have bel1 : RowKit.Below n0 w0 w1 := h'.bel.trans (c1.below hnW fun j hj => by
    rcases hj with e | e
    · exact (h'.dom j (by rw [e]; omega)).1
    · exact (h'.dom j (by rw [e]; omega)).1)
  have bel2 : RowKit.Below n0 w0 w2 := (bel1.trans (hb1.mono (by omega))).trans (c2.below (by omega) fun j hj => by
    rcases hj with e | e
    · exact (h'.dom j (by rw [e]; omega)).1
    · exact (h'.dom j (by rw [e]; omega)).1)
  have uo : ∀ b, b < W'.heap.size → own b ≤ 1 → upd own W1.heap.size w2.heap.size 1 b ≤ 1 := fun b x1 x2 => by rw [old b x1]; exact x2
  refine ⟨h.hn, bel2, fun j hj => ?_, fun m hm => ?_, fun m hm => ?_, fun m hm => ?_, fun m hm => ?_, ?_, fun j hj => ?_, ?_, fun j hj => ?_, by rw [List.length_set]; exact h.pos, by rw [List.length_set]; exact h.le⟩
  · by_cases q : W1.heap.size ≤ j ∧ j < w2.heap.size
    · omega
    · rw [show upd own W1.heap.size w2.heap.size 1 j = own j from if_neg q] at hj
      have := h'.dom j hj
      omega
  · rw [List.length_set] at hm
    rw [rec_set _ _ _ _ hi]
    split
    · have l := h1.lt
      have x1 := (h'.u i hi).lt
      refine h1.keep ?_ ?_ ?_ ?_ ?_ <;> refine (kp2 _ (by first | exact Nat.lt_of_lt_of_le l.1 s2 | exact Nat.lt_of_lt_of_le l.2.1 s2 | exact Nat.lt_of_lt_of_le l.2.2.1 s2 | exact Nat.lt_of_lt_of_le l.2.2.2.1 s2 | exact Nat.lt_of_lt_of_le l.2.2.2.2 s2) (by omega)).trans (hb1.block _ (by first | exact l.1 | exact l.2.1 | exact l.2.2.1 | exact l.2.2.2.1 | exact l.2.2.2.2))
    · rename_i q
      have hu := h'.u m hm
      obtain ⟨a1, a2, a3, a4, a5⟩ := hu.lt
      obtain ⟨b1, b2, b3, b4, b5⟩ := h.ug m hm
      exact hu.keep (kp _ a1 (by omega) (by omega)) (kp _ a2 (by omega) (by omega)) (kp _ a3 (by omega) (by omega)) (kp _ a4 (by omega) (by omega)) (kp _ a5 (by omega) (by omega))
  · rw [List.length_set] at hm
    have hu := (h'.u m hm).lt
    have hg := h.ug m hm
    have : ∀ z : Rec, z.s = (R.getD m r00).s → upd own W1.heap.size w2.heap.size 1 z.s.g = 2 * m + 4 ∧ upd own W1.heap.size w2.heap.size 1 z.s.gp = 2 * m + 4 ∧ upd own W1.heap.size w2.heap.size 1 z.s.p ≤ 1 ∧ upd own W1.heap.size w2.heap.size 1 z.s.pm ≤ 1 ∧ upd own W1.heap.size w2.heap.size 1 z.s.gb ≤ 1 := fun z e => by
      rw [e, old _ hu.1, old _ hu.2.1, old _ hu.2.2.1, old _ hu.2.2.2.1, old _ hu.2.2.2.2]; exact hg
    rw [rec_set _ _ _ _ hi]
    split
    · rename_i q; subst q; exact this _ rfl
    · exact this _ rfl
  · rw [List.length_set] at hm
    rw [rec_set _ _ _ _ hi]
    split
    · exact h2.mono fun j hj e => by
        rcases e with e | e
        · have e : own j = 1 := e
          show upd own W1.heap.size w2.heap.size 1 j = 1
          rw [old j (dlt j (by omega))]; exact e
        · exact upd_new e
    · rename_i q
      have hd := h'.d m hm
      obtain ⟨a1, a2, a3, a4⟩ := hd.lt
      obtain ⟨b1, b2, b3, b4⟩ := h.dg m hm
      exact (hd.keep (by omega) (kp _ a1 (by omega) (by omega)) (kp _ a2 (by omega) (by omega)) (kp _ a3 (by omega) (by omega)) (kp _ a4 (by omega) (by omega)) fun j x1 x2 => kp j x1 (by have x2 : own j = 1 := x2; omega) (by have x2 : own j = 1 := x2; omega)).mono fun j _ e => by
        have e : own j = 1 := e
        show upd own W1.heap.size w2.heap.size 1 j = 1
        rw [old j (dlt j (by omega))]; exact e
  · rw [List.length_set] at hm
    have hu := (h'.d m hm).lt
    have hg := h.dg m hm
    have : ∀ z : Rec, z.q = (R.getD m r00).q → upd own W1.heap.size w2.heap.size 1 z.q.g = 2 * m + 5 ∧ upd own W1.heap.size w2.heap.size 1 z.q.gt = 2 * m + 5 ∧ upd own W1.heap.size w2.heap.size 1 z.q.y ≤ 1 ∧ upd own W1.heap.size w2.heap.size 1 z.q.m ≤ 1 := fun z e => by
      rw [e, old _ hu.1, old _ hu.2.1, old _ hu.2.2.1, old _ hu.2.2.2]; exact hg
    rw [rec_set _ _ _ _ hi]
    split
    · rename_i q; subst q; exact this _ rfl
    · exact this _ rfl
  · rw [List.length_set, pX_set R i hi { R.getD i r00 with B := B', ps := ps' } rfl]
    exact rown_keep h'.x fun j hj ht => kp j ht.lt (by rw [h.xo j hj]; omega) (by rw [h.xo j hj]; omega)
  · rw [old j (dlt j (by rw [h.xo j hj]; omega))]; exact h.xo j hj
  · rw [List.length_set, pY_set R i hi { R.getD i r00 with B := B', ps := ps' } rfl]
    exact rown_keep h'.y fun j hj ht => kp j ht.lt (by rw [h.yo j hj]; omega) (by rw [h.yo j hj]; omega)
  · rw [old j (dlt j (by rw [h.yo j hj]; omega))]; exact h.yo j hj
end
end Go.Proofs.Ytedhefidfepclaa
