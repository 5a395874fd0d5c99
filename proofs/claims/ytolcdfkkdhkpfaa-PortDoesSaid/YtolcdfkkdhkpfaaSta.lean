/- Ports side by side with the document's: the states, and what a call on each leaves. No conditions. -/
import Derived.Test.YtolcdfkkdhkpfaaRfb
namespace Go.Proofs.Ytolcdfkkdhkpfaa
open Go.RowKit Go.Maps
set_option linter.unusedVariables false
set_option linter.unusedSimpArgs false

structure Rec where
  p : Nat
  r : Nat
  s : Po
  t : Po
def po0 : Po := ⟨0, 0, 0, [], 0, 0⟩
def r00 : Rec := ⟨0, 0, po0, po0⟩
def pX (R : List Rec) : List Value := R.map fun x => .pointer (some ⟨x.p, 0, none⟩)
def pY (R : List Rec) : List Value := R.map fun x => .pointer (some ⟨x.r, 0, none⟩)
theorem rec_set (R : List Rec) (i j : Nat) (v : Rec) (hi : i < R.length) : (R.set i v).getD j r00 = if i = j then v else R.getD j r00 := by
  rw [List.getD_eq_getElem?_getD, List.getD_eq_getElem?_getD, List.getElem?_set]
  split
  · rename_i e; rfl
  · rfl
theorem rec_app (R : List Rec) (v : Rec) (j : Nat) (hj : j < R.length + 1) : (R ++ [v]).getD j r00 = if j < R.length then R.getD j r00 else v := by
  rw [List.getD_eq_getElem?_getD, List.getD_eq_getElem?_getD]
  split
  · rename_i e; rw [List.getElem?_append_left e]
  · rename_i e
    rw [List.getElem?_append_right (by omega), show j - R.length = 0 by omega]; rfl
theorem pX_at {R : List Rec} {i : Nat} (h : i < R.length) : (pX R)[i]? = some (.pointer (some ⟨(R.getD i r00).p, 0, none⟩)) := by
  unfold pX; rw [List.getElem?_map, List.getElem?_eq_getElem h, List.getD_eq_getElem?_getD, List.getElem?_eq_getElem h]; rfl
theorem pY_at {R : List Rec} {i : Nat} (h : i < R.length) : (pY R)[i]? = some (.pointer (some ⟨(R.getD i r00).r, 0, none⟩)) := by
  unfold pY; rw [List.getElem?_map, List.getElem?_eq_getElem h, List.getD_eq_getElem?_getD, List.getElem?_eq_getElem h]; rfl
theorem pX_set (R : List Rec) (i : Nat) (hi : i < R.length) (v : Rec) (hv : v.p = (R.getD i r00).p) : pX (R.set i v) = pX R := by
  apply List.ext_getElem?
  intro j
  unfold pX
  rw [List.getElem?_map, List.getElem?_map, List.getElem?_set]
  split
  · rename_i e; subst e; rw [List.getElem?_eq_getElem hi]; simp only [Option.map_some]; rw [hv, List.getD_eq_getElem?_getD, List.getElem?_eq_getElem hi]; rfl
  · rfl
theorem pY_set (R : List Rec) (i : Nat) (hi : i < R.length) (v : Rec) (hv : v.r = (R.getD i r00).r) : pY (R.set i v) = pY R := by
  apply List.ext_getElem?
  intro j
  unfold pY
  rw [List.getElem?_map, List.getElem?_map, List.getElem?_set]
  split
  · rename_i e; subst e; rw [List.getElem?_eq_getElem hi]; simp only [Option.map_some]; rw [hv, List.getD_eq_getElem?_getD, List.getElem?_eq_getElem hi]; rfl
  · rfl
/-- whose a block is, when those from a to b are new and t's -/
def upd (own : Nat → Nat) (a b t : Nat) : Nat → Nat := fun j => if a ≤ j ∧ j < b then t else own j
theorem upd_new {own : Nat → Nat} {a b t j : Nat} (h : a ≤ j ∧ j < b) : upd own a b t j = t := if_pos h
theorem upd_old {own : Nat → Nat} {a b t j : Nat} (h : j < a) : upd own a b t j = own j := if_neg (by omega)
/-- ports, the document's ports, and the two rows of pointers -/
structure Stt (n0 k : Nat) (c : Cf) (w0 W : World) (xv yv : Value) (own : Nat → Nat) (R : List Rec) : Prop where
  hn : n0 ≤ w0.heap.size
  bel : RowKit.Below n0 w0 W
  dom : ∀ j, own j ≠ 0 → n0 ≤ j ∧ j < W.heap.size
  u : ∀ i, i < R.length → IsP W (fun j => own j = i + 3) (R.getD i r00).p (R.getD i r00).s
  d : ∀ i, i < R.length → IsR W (fun j => own j = 1) c (R.getD i r00).r (R.getD i r00).t ∧ own (R.getD i r00).r = 2
  o : ∀ i, i < R.length → (R.getD i r00).s.ok ∧ (R.getD i r00).t.ok ∧ (R.getD i r00).s.lost ≤ k ∧ (R.getD i r00).t.lost ≤ k
  ne : ∀ i j, i < R.length → j < R.length → i ≠ j → (R.getD i r00).r ≠ (R.getD j r00).r
  x : W.ownsRow n0 25 1 xv R.length (pX R)
  xo : ∀ j, xv.ownBlock = some j → own j = 2
  y : W.ownsRow n0 29 1 yv R.length (pY R)
  yo : ∀ j, yv.ownBlock = some j → own j = 2
  pos : 0 < R.length
  le : R.length ≤ k + 1
section
variable {n0 k : Nat} {c : Cf} {w0 W : World} {xv yv : Value} {own : Nat → Nat} {R : List Rec}
theorem Stt.below {W' : World} (h : Stt n0 k c w0 W xv yv own R) (hb : Below W.heap.size W W') : Stt n0 k c w0 W' xv yv own R :=
  ⟨h.hn, h.bel.trans (hb.mono (Nat.le_trans h.hn h.bel.size)), fun j hj => ⟨(h.dom j hj).1, Nat.lt_of_lt_of_le (h.dom j hj).2 hb.size⟩, fun i hi => (h.u i hi).below hb, fun i hi => ⟨(h.d i hi).1.below hb, (h.d i hi).2⟩, h.o, h.ne, own_below h.x hb, h.xo, own_below h.y hb, h.yo, h.pos, h.le⟩
theorem Stt.next (h : Stt n0 k c w0 W xv yv own R) : Stt n0 (k + 1) c w0 W xv yv own R :=
  ⟨h.hn, h.bel, h.dom, h.u, h.d, fun i hi => ⟨(h.o i hi).1, (h.o i hi).2.1, Nat.le_succ_of_le (h.o i hi).2.2.1, Nat.le_succ_of_le (h.o i hi).2.2.2⟩, h.ne, h.x, h.xo, h.y, h.yo, h.pos, Nat.le_succ_of_le h.le⟩
/-- a call on the i-th port -/
theorem Stt.port {W' w' : World} {i : Nat} {v : Value} {e : Ending} {s' : Po} {k' : Nat} (h : Stt n0 k c w0 W xv yv own R) (hk : k ≤ k') (hi : i < R.length) (hb : Below W.heap.size W W') (ht : TakP W' (fun j => own j = i + 3) (R.getD i r00).p v s' e w') (ho : s'.ok) (hl : s'.lost ≤ k') :
    (∀ b, b < W'.heap.size → own b ≠ i + 3 → w'.heap[b]? = W'.heap[b]?) ∧ Stt n0 k' c w0 w' xv yv (upd own W'.heap.size w'.heap.size (i + 3)) (R.set i { R.getD i r00 with s := s' }) := by
  obtain ⟨he, hp, hc⟩ := ht
  have h' := h.below hb
  have old : ∀ j, own j ≠ 0 → upd own W'.heap.size w'.heap.size (i + 3) j = own j := fun j hj => upd_old (h'.dom j hj).2
  have kp : ∀ b, b < W'.heap.size → own b ≠ i + 3 → w'.heap[b]? = W'.heap[b]? := fun b h1 h2 => hc.block b h1 h2
  refine ⟨kp, h.hn, h'.bel.trans (hc.below (Nat.le_trans h.hn h'.bel.size) fun j hj => (h'.dom j (by rw [hj]; omega)).1), fun j hj => ?_, fun m hm => ?_, fun m hm => ?_, fun m hm => ?_, fun a b ha hb2 hne => ?_, ?_, fun j hj => ?_, ?_, fun j hj => ?_, by rw [List.length_set]; exact h.pos, by rw [List.length_set]; exact Nat.le_trans h.le (by omega)⟩
  · unfold upd at hj
    split at hj
    · rename_i q; exact ⟨Nat.le_trans (Nat.le_trans h.hn h'.bel.size) q.1, q.2⟩
    · exact ⟨(h'.dom j hj).1, Nat.lt_of_lt_of_le (h'.dom j hj).2 hc.size⟩
  · rw [List.length_set] at hm
    rw [rec_set _ _ _ _ hi]
    split
    · rename_i q; subst q
      exact hp.mono fun j _ hj => by
        rcases hj with hj | hj
        · rw [old j (by rw [hj]; omega)]; exact hj
        · exact upd_new hj
    · rename_i q
      exact ((h'.u m hm).keep fun j h1 h2 => kp j h1 (by rw [h2]; omega)).mono fun j _ hj => by rw [old j (by rw [hj]; omega)]; exact hj
  · rw [List.length_set] at hm
    have hd : ∀ x : Rec, x.r = (R.getD m r00).r → x.t = (R.getD m r00).t → IsR w' (fun j => upd own W'.heap.size w'.heap.size (i + 3) j = 1) c x.r x.t ∧ upd own W'.heap.size w'.heap.size (i + 3) x.r = 2 := fun x h1 h2 => by
      rw [h1, h2]
      obtain ⟨d1, d2⟩ := h'.d m hm
      exact ⟨(d1.keep hc.size (kp _ d1.ltr (by rw [d2]; omega)) fun j h1 h2 => kp j h1 (by rw [h2]; omega)).mono fun j _ hj => by rw [old j (by rw [hj]; omega)]; exact hj, by rw [old _ (by rw [d2]; omega)]; exact d2⟩
    rw [rec_set _ _ _ _ hi]
    split
    · rename_i q; subst q; exact hd _ rfl rfl
    · exact hd _ rfl rfl
  · rw [List.length_set] at hm
    rw [rec_set _ _ _ _ hi]
    obtain ⟨o1, o2, o3, o4⟩ := h.o m hm
    split
    · rename_i q; subst q; exact ⟨ho, o2, hl, Nat.le_trans o4 hk⟩
    · exact ⟨o1, o2, Nat.le_trans o3 hk, Nat.le_trans o4 hk⟩
  · rw [List.length_set] at ha hb2
    rw [rec_set _ _ _ _ hi, rec_set _ _ _ _ hi]
    by_cases e1 : i = a
    · rw [if_pos e1, if_neg (by omega)]; subst e1; exact h.ne i b ha hb2 hne
    · rw [if_neg e1]
      by_cases e2 : i = b
      · rw [if_pos e2]; subst e2; exact h.ne a i ha hb2 hne
      · rw [if_neg e2]; exact h.ne a b ha hb2 hne
  · rw [List.length_set, pX_set R i hi { R.getD i r00 with s := s' } rfl]
    exact own_keep h'.x fun j hj ht => kp j ht.lt (by rw [h.xo j hj]; omega)
  · rw [old j (by rw [h.xo j hj]; omega)]; exact h.xo j hj
  · rw [List.length_set, pY_set R i hi { R.getD i r00 with s := s' } rfl]
    exact own_keep h'.y fun j hj ht => kp j ht.lt (by rw [h.yo j hj]; omega)
  · rw [old j (by rw [h.yo j hj]; omega)]; exact h.yo j hj
/-- a call on the document's i-th port -/
theorem Stt.ref {W' w' : World} {i : Nat} {v : Value} {e : Ending} {t' : Po} {k' : Nat} (h : Stt n0 k c w0 W xv yv own R) (hk : k ≤ k') (hi : i < R.length) (hb : Below W.heap.size W W') (ht : RefP W' (fun j => own j = 1) c (R.getD i r00).r v t' e w') (ho : t'.ok) (hl : t'.lost ≤ k') :
    (∀ b, b < W'.heap.size → b ≠ (R.getD i r00).r → w'.heap[b]? = W'.heap[b]?) ∧ Stt n0 k' c w0 w' xv yv (upd own W'.heap.size w'.heap.size 1) (R.set i { R.getD i r00 with t := t' }) := by
  obtain ⟨he, hp, hc⟩ := ht
  have h' := h.below hb
  have old : ∀ j, own j ≠ 0 → upd own W'.heap.size w'.heap.size 1 j = own j := fun j hj => upd_old (h'.dom j hj).2
  have kp : ∀ b, b < W'.heap.size → b ≠ (R.getD i r00).r → w'.heap[b]? = W'.heap[b]? := fun b h1 h2 => hc.block b h1 h2
  obtain ⟨di, oi⟩ := h'.d i hi
  have tr := di.ty
  refine ⟨kp, h.hn, h'.bel.trans (hc.below (Nat.le_trans h.hn h'.bel.size) fun j hj => by have hj : j = _ := hj; exact (h'.dom j (by rw [hj, oi]; omega)).1), fun j hj => ?_, fun m hm => ?_, fun m hm => ?_, fun m hm => ?_, fun a b ha hb2 hne => ?_, ?_, fun j hj => ?_, ?_, fun j hj => ?_, by rw [List.length_set]; exact h.pos, by rw [List.length_set]; exact Nat.le_trans h.le (by omega)⟩
  · unfold upd at hj
    split at hj
    · rename_i q; exact ⟨Nat.le_trans (Nat.le_trans h.hn h'.bel.size) q.1, q.2⟩
    · exact ⟨(h'.dom j hj).1, Nat.lt_of_lt_of_le (h'.dom j hj).2 hc.size⟩
  · rw [List.length_set] at hm
    have hd : ∀ x : Rec, x.p = (R.getD m r00).p → x.s = (R.getD m r00).s → IsP w' (fun j => upd own W'.heap.size w'.heap.size 1 j = m + 3) x.p x.s := fun x h1 h2 => by
      rw [h1, h2]
      exact ((h'.u m hm).keep fun j h1 h2 => kp j h1 (fun q => by rw [q, oi] at h2; omega)).mono fun j _ hj => by rw [old j (by rw [hj]; omega)]; exact hj
    rw [rec_set _ _ _ _ hi]
    split
    · rename_i q; subst q; exact hd _ rfl rfl
    · exact hd _ rfl rfl
  · rw [List.length_set] at hm
    rw [rec_set _ _ _ _ hi]
    split
    · rename_i q; subst q
      exact ⟨hp.mono fun j _ hj => by
        rcases hj with hj | hj
        · rw [old j (by rw [hj]; omega)]; exact hj
        · exact upd_new hj, by rw [old _ (by rw [oi]; omega)]; exact oi⟩
    · rename_i q
      obtain ⟨d1, d2⟩ := h'.d m hm
      exact ⟨(d1.keep hc.size (kp _ d1.ltr (h.ne m i hm hi (by omega))) fun j h1 h2 => kp j h1 (fun q => by rw [q, oi] at h2; omega)).mono fun j _ hj => by rw [old j (by rw [hj]; omega)]; exact hj, by rw [old _ (by rw [d2]; omega)]; exact d2⟩
  · rw [List.length_set] at hm
    rw [rec_set _ _ _ _ hi]
    obtain ⟨o1, o2, o3, o4⟩ := h.o m hm
    split
    · rename_i q; subst q; exact ⟨o1, ho, Nat.le_trans o3 hk, hl⟩
    · exact ⟨o1, o2, Nat.le_trans o3 hk, Nat.le_trans o4 hk⟩
  · rw [List.length_set] at ha hb2
    rw [rec_set _ _ _ _ hi, rec_set _ _ _ _ hi]
    by_cases e1 : i = a
    · rw [if_pos e1, if_neg (by omega)]; subst e1; exact h.ne i b ha hb2 hne
    · rw [if_neg e1]
      by_cases e2 : i = b
      · rw [if_pos e2]; subst e2; exact h.ne a i ha hb2 hne
      · rw [if_neg e2]; exact h.ne a b ha hb2 hne
  · rw [List.length_set, pX_set R i hi { R.getD i r00 with t := t' } rfl]
    exact own_keep h'.x fun j hj ht => kp j ht.lt (TyB.ne ht tr (by decide))
  · rw [old j (by rw [h.xo j hj]; omega)]; exact h.xo j hj
  · rw [List.length_set, pY_set R i hi { R.getD i r00 with t := t' } rfl]
    exact own_keep h'.y fun j hj ht => kp j ht.lt (TyB.ne ht tr (by decide))
  · rw [old j (by rw [h.yo j hj]; omega)]; exact h.yo j hj
def Eqs (R : List Rec) : Prop := ∀ i, i < R.length → (R.getD i r00).s = (R.getD i r00).t
theorem eqs_two {i : Nat} (h : Eqs R) (hi : i < R.length) (s' t' : Po) (e : s' = t') : Eqs ((R.set i { R.getD i r00 with s := s' }).set i { (R.set i { R.getD i r00 with s := s' }).getD i r00 with t := t' }) := by
  intro j hj
  rw [List.length_set, List.length_set] at hj
  rw [rec_set _ _ _ _ (by rw [List.length_set]; exact hi), rec_set _ _ _ _ hi, rec_set _ _ _ _ hi, if_pos rfl]
  split
  · exact e
  · exact h j hj
/-- the two pointers of the i-th ports, and a call's own block -/
theorem Stt.at (h : Stt n0 k c w0 W xv yv own R) {i : Nat} (hi : i < R.length) : ∃ gx cx gy cy, xv = .slice (some ⟨gx, 0, none⟩) R.length cx ∧ yv = .slice (some ⟨gy, 0, none⟩) R.length cy ∧ W.cell? ⟨gx, i, none⟩ = some (.pointer (some ⟨(R.getD i r00).p, 0, none⟩)) ∧ W.cell? ⟨gy, i, none⟩ = some (.pointer (some ⟨(R.getD i r00).r, 0, none⟩)) := by
  obtain ⟨q1, c1, e1, h1⟩ := own_slice h.x
  obtain ⟨q2, c2, e2, h2⟩ := own_slice h.y
  obtain ⟨gx, rfl, hx⟩ := h1 h.pos
  obtain ⟨gy, rfl, hy⟩ := h2 h.pos
  exact ⟨gx, c1, gy, c2, e1, e2, hx i _ (pX_at hi), hy i _ (pY_at hi)⟩
theorem Stt.at2 {gx cx gy cy n m : Nat} (h : Stt n0 k c w0 W (.slice (some ⟨gx, 0, none⟩) n cx) (.slice (some ⟨gy, 0, none⟩) m cy) own R) {i : Nat} (hi : i < R.length) : n = R.length ∧ m = R.length ∧ W.cell? ⟨gx, i, none⟩ = some (.pointer (some ⟨(R.getD i r00).p, 0, none⟩)) ∧ W.cell? ⟨gy, i, none⟩ = some (.pointer (some ⟨(R.getD i r00).r, 0, none⟩)) := by
  obtain ⟨gx', cx', gy', cy', e1, e2, h1, h2⟩ := h.at hi
  injection e1 with e1 e3 _
  injection e1 with e1
  injection e1 with e1 _
  injection e2 with e2 e4 _
  injection e2 with e2
  injection e2 with e2 _
  subst e1; subst e2
  exact ⟨e3, e4, h1, h2⟩
end
end Go.Proofs.Ytolcdfkkdhkpfaa
