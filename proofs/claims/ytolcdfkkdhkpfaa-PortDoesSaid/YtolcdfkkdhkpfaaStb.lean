/- Ports side by side with the document's: a call on both; clones of both. No conditions. -/
import Derived.Test.YtolcdfkkdhkpfaaSta
namespace Go.Proofs.Ytolcdfkkdhkpfaa
open Go.RowKit Go.Maps
set_option linter.unusedVariables false
set_option linter.unusedSimpArgs false

theorem Try.info25 : (Try.prog.info? 25).map (fun i => (i.zero, i.size, i.bytes)) = some (some (.pointer none), 1, 8) := by kernel_rfl
theorem Try.info29 : (Try.prog.info? 29).map (fun i => (i.zero, i.size, i.bytes)) = some (some (.pointer none), 1, 8) := by kernel_rfl
section
variable {n0 k : Nat} {c : Cf} {w0 W : World} {xv yv : Value} {own : Nat → Nat} {R : List Rec}
theorem Stt.two {W' : World} {i : Nat} (h : Stt n0 k c w0 W xv yv own R) (heq : Eqs R) (hi : i < R.length) (hb : Below W.heap.size W W') (s' t' : Po) (e : s' = t') (ho : s'.ok) (hl : s'.lost ≤ k + 1) (P Q : Nat) (args1 args2 : Array Value) (v1 v2 : Value)
    (S : World → Prop) (hS : ∀ W2, (∀ b, b < W'.heap.size → own b ≠ i + 3 → b ≠ (R.getD i r00).r → W2.heap[b]? = W'.heap[b]?) → S W2)
    (hp : ∀ F, IsP W' F (R.getD i r00).p (R.getD i r00).s → Calls Try.prog P args1 W' (TakP W' F (R.getD i r00).p v1 s'))
    (hr : ∀ W2 G, IsR W2 G c (R.getD i r00).r (R.getD i r00).t → ¬ G (R.getD i r00).r → Calls Try.prog Q args2 W2 (RefP W2 G c (R.getD i r00).r v2 t')) :
    Calls Try.prog P args1 W' fun e w1 => e = .returned v1 ∧ S w1 ∧ Hid (∀ W1, (W1 = w1 ∨ W1 = w1.drew) → S W1 ∧ Calls Try.prog Q args2 W1 fun e2 w2 => e2 = .returned v2 ∧ S w2 ∧ Hid (∃ own' R', Stt n0 (k + 1) c w0 w2 xv yv own' R' ∧ Eqs R' ∧ R'.length = R.length)) := by
  have h' := h.below hb
  refine (hp _ (h'.u i hi)).mono fun e1 w1 x => ?_
  obtain ⟨kp, hst⟩ := h.port (Nat.le_succ k) hi hb x ho hl
  refine ⟨x.1, hS w1 fun b h1 h2 _ => kp b h1 h2, Lib.hid fun W1 hW1 => ?_⟩
  have hb1 : Below w1.heap.size w1 W1 := by rcases hW1 with q | q <;> subst q; exact Below.refl _ _; exact below_draw _
  have sz : W'.heap.size ≤ w1.heap.size := x.2.2.size
  have k1 : ∀ b, b < W'.heap.size → own b ≠ i + 3 → b ≠ (R.getD i r00).r → W1.heap[b]? = W'.heap[b]? := fun b h1 h2 _ => (hb1.block b (by omega)).trans (kp b h1 h2)
  have hi2 : i < (R.set i { R.getD i r00 with s := s' }).length := by rw [List.length_set]; exact hi
  have hR : (R.set i { R.getD i r00 with s := s' }).getD i r00 = { R.getD i r00 with s := s' } := by rw [rec_set _ _ _ _ hi, if_pos rfl]
  obtain ⟨d1, d2⟩ := (hst.below hb1).d i hi2
  refine ⟨hS W1 k1, (hr W1 _ (by rw [hR] at d1; exact d1) (by rw [hR] at d2; show ¬ _ = 1; rw [d2]; decide)).mono fun e2 w2 y => ?_⟩
  have y' : RefP W1 (fun j => upd own W'.heap.size w1.heap.size (i + 3) j = 1) c ((R.set i { R.getD i r00 with s := s' }).getD i r00).r v2 t' e2 w2 := by rw [hR]; exact y
  obtain ⟨kp2, hst2⟩ := hst.ref (Nat.le_refl _) hi2 hb1 y' (e ▸ ho) (e ▸ hl)
  refine ⟨y.1, hS w2 fun b h1 h2 h3 => (kp2 b (by have := hb1.size; omega) (by rw [hR]; exact h3)).trans (k1 b h1 h2 h3), Lib.hid ⟨_, _, hst2, eqs_two heq hi s' t' e, by rw [List.length_set, List.length_set]⟩⟩
theorem Stt.clone {W' : World} {i : Nat} (h : Stt n0 k c w0 W xv yv own R) (heq : Eqs R) (hi : i < R.length) (hb : Below W.heap.size W W') (hk : k ≤ 4398046511104) {gy cy : Nat} (hyv : yv = .slice (some ⟨gy, 0, none⟩) R.length cy) :
    Calls Try.prog 18 #[.pointer (some ⟨(R.getD i r00).p, 0, none⟩)] W' fun e w1 => ∃ p', e = .returned (.pointer (some ⟨p', 0, none⟩)) ∧ ∃ q1 n1 c1 W2, (Builtin.append_ #[34, 34] 34 #[xv, .slice (some ⟨w1.heap.size, 0, none⟩) 1 1]).run Try.prog (w1.alloc (.cells #[.pointer (some ⟨p', 0, none⟩)] 25)) = .ok (.slice q1 n1 c1) W2 ∧
      W2.cell? ⟨gy, i, none⟩ = some (.pointer (some ⟨(R.getD i r00).r, 0, none⟩)) ∧
      Hid (Calls Try.prog 19 #[.pointer (some ⟨(R.getD i r00).r, 0, none⟩)] W2 fun e2 w3 => ∃ r', e2 = .returned (.pointer (some ⟨r', 0, none⟩)) ∧ ∃ q2 n2 c2 W4, (Builtin.append_ #[35, 35] 35 #[yv, .slice (some ⟨w3.heap.size, 0, none⟩) 1 1]).run Try.prog (w3.alloc (.cells #[.pointer (some ⟨r', 0, none⟩)] 29)) = .ok (.slice q2 n2 c2) W4 ∧
        Hid (∃ own' R', Stt n0 (k + 1) c w0 W4 (.slice q1 n1 c1) (.slice q2 n2 c2) own' R' ∧ Eqs R' ∧ R.length < R'.length)) := by
  have h' := h.below hb
  obtain ⟨ok1, ok2, lo1, lo2⟩ := h.o i hi
  obtain ⟨i25, hi25, hz25, hs25, hb25⟩ := info_parts Try.info25
  obtain ⟨i29, hi29, hz29, hs29, hb29⟩ := info_parts Try.info29
  have hle := h.le
  have hnW : n0 ≤ W'.heap.size := Nat.le_trans h.hn h'.bel.size
  refine (clone_any W' _ _ _ (h'.u i hi) (Nat.le_trans ok1.len ok1.dep.2)).mono fun e w1 ⟨p', x1, x2, x3⟩ => ⟨p', x1, ?_⟩
  have ba : Below w1.heap.size w1 (w1.alloc (.cells #[.pointer (some ⟨p', 0, none⟩)] 25)) := (Below.refl _ w1).alloc (Nat.le_refl _) _
  have na := block_new w1 (.cells #[.pointer (some ⟨p', 0, none⟩)] 25)
  have bx : Below W'.heap.size W' (w1.alloc (.cells #[.pointer (some ⟨p', 0, none⟩)] 25)) := x3.trans (ba.mono x3.size)
  have sa : (w1.alloc (.cells #[.pointer (some ⟨p', 0, none⟩)] 25)).heap.size = w1.heap.size + 1 := World.size_alloc _ _
  obtain ⟨vx, W2, r1, o1, g1, _, k1⟩ := run_append_own_at (P := Try.prog) (w := w1.alloc (.cells #[.pointer (some ⟨p', 0, none⟩)] 25)) n0 34 34 25 i25 (.pointer none) 1 8 Try.underlying34 hi25 hz25 hs25 hb25 rfl (by decide) xv _ _ (own_below h'.x bx) ⟨w1.heap.size, 0, none⟩ 1 1 [.pointer (some ⟨p', 0, none⟩)] rfl (by
    intro j u hu
    rw [addr_at, Nat.zero_add, cell_of_row _ _ _ _ _ _ na, ← hu]; exact (List.getElem?_toArray ..)) (by intro u hu; simp at hu; subst hu; rfl) (by unfold maxLen; omega) (by omega) (Nat.le_trans hnW bx.size)
  obtain ⟨q1, c1, rfl, _⟩ := own_slice o1
  have xlt : ∀ j, xv.ownBlock = some j → j < W'.heap.size := fun j hj => (own_ty h'.x j hj).1.lt
  have ylt : ∀ j, yv.ownBlock = some j → j < W'.heap.size := fun j hj => (own_ty h'.y j hj).1.lt
  -- what is kept up to W2
  have kpa : ∀ b, b < W'.heap.size → xv.ownBlock ≠ some b → W2.heap[b]? = W'.heap[b]? := fun b h1 h2 => (g1.block b (by have := bx.size; omega) (fun e => h2 e.symm)).trans (bx.block b h1)
  have kpb : ∀ b, W'.heap.size ≤ b → b < w1.heap.size → W2.heap[b]? = w1.heap[b]? := fun b h1 h2 => (g1.block b (by omega) (fun e => by have := xlt b e.symm; omega)).trans (ba.block b h2)
  have s2 : w1.heap.size + 1 ≤ W2.heap.size := by have := g1.size; omega
  obtain ⟨d1, d2⟩ := h'.d i hi
  have own2 : ∀ b, own b ≠ 2 → xv.ownBlock ≠ some b ∧ yv.ownBlock ≠ some b := fun b hb => ⟨fun e => hb (h.xo b e), fun e => hb (h.yo b e)⟩
  have d2W : IsR W2 (fun j => own j = 1) c (R.getD i r00).r (R.getD i r00).t := d1.keep (by have := x3.size; omega) (kpa _ d1.ltr fun e => TyB.ne (own_ty h'.x _ e).1 d1.ty (by decide) rfl) fun j h1 h2 => kpa j h1 (own2 j (by rw [h2]; decide)).1
  have hy2 : W2.ownsRow n0 29 1 yv R.length (pY R) := own_keep h'.y fun j hj ht => kpa j ht.lt fun e => TyB.ne (own_ty h'.x _ e).1 ht (by decide) rfl
  refine ⟨q1, _, c1, W2, r1, ?_, Lib.hid ?_⟩
  · obtain ⟨q2, cap2, e2, hc2⟩ := own_slice hy2
    rw [hyv] at e2
    injection e2 with e2 _ _
    obtain ⟨g2, e3, hc3⟩ := hc2 h.pos
    rw [e3] at e2
    injection e2 with e2
    injection e2 with e2 _
    subst e2
    exact hc3 i _ (pY_at hi)
  refine (rcopy_any W2 _ c _ _ d2W).mono fun e2 w3 ⟨r', y1, y2, y3, y4⟩ => ⟨r', y1, ?_⟩
  have bb : Below w3.heap.size w3 (w3.alloc (.cells #[.pointer (some ⟨r', 0, none⟩)] 29)) := (Below.refl _ w3).alloc (Nat.le_refl _) _
  have nb := block_new w3 (.cells #[.pointer (some ⟨r', 0, none⟩)] 29)
  have by_ : Below W2.heap.size W2 (w3.alloc (.cells #[.pointer (some ⟨r', 0, none⟩)] 29)) := y4.trans (bb.mono y4.size)
  have sb : (w3.alloc (.cells #[.pointer (some ⟨r', 0, none⟩)] 29)).heap.size = w3.heap.size + 1 := World.size_alloc _ _
  have hnb : n0 ≤ (w3.alloc (.cells #[.pointer (some ⟨r', 0, none⟩)] 29)).heap.size := by have := x3.size; have := y4.size; omega
  obtain ⟨vy, W4, r2, o2, g2, _, k2⟩ := run_append_own_at (P := Try.prog) (w := w3.alloc (.cells #[.pointer (some ⟨r', 0, none⟩)] 29)) n0 35 35 29 i29 (.pointer none) 1 8 Try.underlying35 hi29 hz29 hs29 hb29 rfl (by decide) yv _ _ (own_below hy2 by_) ⟨w3.heap.size, 0, none⟩ 1 1 [.pointer (some ⟨r', 0, none⟩)] rfl (by
    intro j u hu
    rw [addr_at, Nat.zero_add, cell_of_row _ _ _ _ _ _ nb, ← hu]; exact (List.getElem?_toArray ..)) (by intro u hu; simp at hu; subst hu; rfl) (by unfold maxLen; omega) (by omega) hnb
  obtain ⟨q2, c2, rfl, _⟩ := own_slice o2
  have s3 : W2.heap.size ≤ w3.heap.size := y4.size
  have s4 : w3.heap.size + 1 ≤ W4.heap.size := by have := g2.size; omega
  -- from W2 to W4
  have kpc : ∀ b, b < W2.heap.size → yv.ownBlock ≠ some b → W4.heap[b]? = W2.heap[b]? := fun b h1 h2 => (g2.block b (by have := by_.size; omega) (fun e => h2 e.symm)).trans (by_.block b h1)
  have kpd : ∀ b, W2.heap.size ≤ b → b < w3.heap.size → W4.heap[b]? = w3.heap[b]? := fun b h1 h2 => (g2.block b (by omega) (fun e => by have := ylt b e.symm; have := x3.size; omega)).trans (bb.block b h2)
  have kp : ∀ b, b < W'.heap.size → xv.ownBlock ≠ some b → yv.ownBlock ≠ some b → W4.heap[b]? = W'.heap[b]? := fun b h1 h2 h3 => (kpc b (by have := x3.size; omega) h3).trans (kpa b h1 h2)
  have sW : W'.heap.size ≤ w1.heap.size := x3.size
  refine ⟨q2, _, c2, W4, r2, Lib.hid ⟨fun j => if j < W'.heap.size then own j else if j < w1.heap.size then R.length + 3 else if j < W4.heap.size then 2 else 0, R ++ [⟨p', r', (R.getD i r00).s, (R.getD i r00).t⟩], ?_, ?_, by simp⟩⟩
  · have lenR : (R ++ [(⟨p', r', (R.getD i r00).s, (R.getD i r00).t⟩ : Rec)]).length = R.length + 1 := by simp
    have oldo : ∀ j, j < W'.heap.size → (if j < W'.heap.size then own j else if j < w1.heap.size then R.length + 3 else if j < W4.heap.size then 2 else 0) = own j := fun j hj => if_pos hj
    have two : ∀ j, w1.heap.size ≤ j → j < W4.heap.size → (if j < W'.heap.size then own j else if j < w1.heap.size then R.length + 3 else if j < W4.heap.size then 2 else 0) = 2 := fun j h1 h2 => by rw [if_neg (by omega), if_neg (by omega), if_pos h2]
    have dlt : ∀ j, own j ≠ 0 → j < W'.heap.size := fun j hj => (h'.dom j hj).2
    have bel4 : RowKit.Below n0 w0 W4 := by
      have b1 : RowKit.Below n0 w0 (w1.alloc (.cells #[.pointer (some ⟨p', 0, none⟩)] 25)) := h'.bel.trans (bx.mono hnW)
      have b2 : RowKit.Below n0 w0 W2 := b1.grown g1 (Nat.le_trans hnW bx.size) (fun j hj => (own_ty h'.x j hj).2)
      have b3 : RowKit.Below n0 w0 (w3.alloc (.cells #[.pointer (some ⟨r', 0, none⟩)] 29)) := b2.trans (by_.mono (by omega))
      exact b3.grown g2 hnb (fun j hj => (own_ty h'.y j hj).2)
    refine ⟨h.hn, bel4, fun j hj => ?_, fun m hm => ?_, fun m hm => ?_, fun m hm => ?_, fun a b ha hb2 hne => ?_, ?_, fun j hj => ?_, ?_, fun j hj => ?_, by rw [lenR]; omega, by rw [lenR]; omega⟩
    · by_cases q : j < W'.heap.size
      · rw [oldo j q] at hj; exact ⟨(h'.dom j hj).1, by omega⟩
      · refine ⟨by omega, ?_⟩
        by_cases q2 : j < W4.heap.size
        · exact q2
        · rw [if_neg q, if_neg (by omega), if_neg q2] at hj; exact absurd rfl hj
    · rw [lenR] at hm
      rw [rec_app _ _ _ hm]
      split
      · rename_i q
        exact ((h'.u m q).keep fun j h1 h2 => kp j h1 (own2 j (by rw [h2]; omega)).1 (own2 j (by rw [h2]; omega)).2).mono fun j _ hj => by rw [oldo j (dlt j (by rw [hj]; omega))]; exact hj
      · rename_i q
        have hm2 : m = R.length := by omega
        subst hm2
        exact (x2.keep fun j h1 h2 => (kpc j (by have := h2.2; omega) (fun e => by have := ylt j e; have := h2.1; omega)).trans (kpb j h2.1 h2.2)).mono fun j _ hj => by rw [if_neg (by have := hj.1; omega), if_pos hj.2]
    · rw [lenR] at hm
      rw [rec_app _ _ _ hm]
      split
      · rename_i q
        obtain ⟨e1, e2⟩ := h'.d m q
        exact ⟨(e1.keep (by omega) (kp _ e1.ltr (fun e => TyB.ne (own_ty h'.x _ e).1 e1.ty (by decide) rfl) (fun e => TyB.ne (own_ty h'.y _ e).1 e1.ty (by decide) rfl)) fun j h1 h2 => kp j h1 (own2 j (by rw [h2]; decide)).1 (own2 j (by rw [h2]; decide)).2).mono fun j _ hj => by rw [oldo j (dlt j (by rw [hj]; omega))]; exact hj, by rw [oldo _ e1.ltr]; exact e2⟩
      · have rl := y2.ltr
        refine ⟨(y2.keep (by omega) (kpd _ y3 rl) fun j h1 h2 => ?_).mono fun j _ hj => by rw [oldo j (dlt j (by rw [hj]; omega))]; exact hj, two _ (by show w1.heap.size ≤ r'; omega) (by show r' < _; omega)⟩
        have jl := dlt j (by rw [h2]; decide)
        exact (kpc j (by omega) (own2 j (by rw [h2]; decide)).2).trans (y4.block j (by omega)).symm
    · rw [lenR] at hm
      rw [rec_app _ _ _ hm]
      split
      · rename_i q
        obtain ⟨a1, a2, a3, a4⟩ := h.o m q
        exact ⟨a1, a2, Nat.le_succ_of_le a3, Nat.le_succ_of_le a4⟩
      · exact ⟨ok1, ok2, Nat.le_succ_of_le lo1, Nat.le_succ_of_le lo2⟩
    · rw [lenR] at ha hb2
      rw [rec_app _ _ _ ha, rec_app _ _ _ hb2]
      split
      · rename_i qa
        split
        · rename_i qb; exact h.ne a b qa qb hne
        · have := (h'.d a qa).1.ltr
          show (R.getD a r00).r ≠ r'
          omega
      · split
        · rename_i qb
          have := (h'.d b qb).1.ltr
          show r' ≠ (R.getD b r00).r
          omega
        · omega
    · rw [lenR, show pX (R ++ [(⟨p', r', (R.getD i r00).s, (R.getD i r00).t⟩ : Rec)]) = pX R ++ [.pointer (some ⟨p', 0, none⟩)] by unfold pX; simp]
      exact own_keep o1 fun j hj ht => kpc j ht.lt fun e => by
        have hy := (own_ty hy2 j e).1
        exact TyB.ne ht hy (by decide) rfl
    · have hj2 := hj
      rcases k1 with q | q
      · rw [q] at hj; rw [oldo j (xlt j hj)]; exact h.xo j hj
      · rw [q] at hj; injection hj with hj
        exact two j (by omega) (by have := (own_ty o1 j hj2).1.lt; omega)
    · rw [lenR, show pY (R ++ [(⟨p', r', (R.getD i r00).s, (R.getD i r00).t⟩ : Rec)]) = pY R ++ [.pointer (some ⟨r', 0, none⟩)] by unfold pY; simp]
      exact o2
    · have hj2 := hj
      rcases k2 with q | q
      · rw [q] at hj; rw [oldo j (ylt j hj)]; exact h.yo j hj
      · rw [q] at hj; injection hj with hj
        exact two j (by omega) (own_ty o2 j hj2).1.lt
  · intro m hm
    rw [List.length_append] at hm
    rw [rec_app _ _ _ (by simpa using hm)]
    split
    · rename_i q; exact heq m q
    · exact heq i hi
end
end Go.Proofs.Ytolcdfkkdhkpfaa
