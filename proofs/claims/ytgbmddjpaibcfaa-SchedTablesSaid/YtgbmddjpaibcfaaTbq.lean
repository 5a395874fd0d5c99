/- Tables side by side with the document's: what a round leaves. No conditions. -/
import Derived.Test.YtgbmddjpaibcfaaTbp
namespace Go.Proofs.Ytgbmddjpaibcfaa
open Go.RowKit Go.Maps
set_option linter.unusedVariables false
set_option linter.unusedSimpArgs false

theorem Try.info43 : (Try.prog.info? 43).map (fun i => (i.zero, i.size, i.bytes)) = some (some (.pointer none), 1, 8) := by kernel_rfl
theorem Try.info46 : (Try.prog.info? 46).map (fun i => (i.zero, i.size, i.bytes)) = some (some (.pointer none), 1, 8) := by kernel_rfl
theorem own_below {w W : World} {b e n : Nat} {v : Value} {xs : List Value} (h : w.ownsRow b e 1 v n xs) (hb : Below w.heap.size w W) : W.ownsRow b e 1 v n xs := own_keep h fun j hj => hb.block j hj.lt
theorem Sts.below {n0 k : Nat} {w0 w W : World} {xv yv : Value} {R : List Rec} (h : Sts n0 k w0 w xv yv R) (hb : Below w.heap.size w W) (hn : n0 ≤ w.heap.size) : Sts n0 k w0 W xv yv R :=
  ⟨h.1.below hb, own_below h.2.1 hb, own_below h.2.2.1 hb, h.2.2.2.1.trans (hb.mono hn), h.2.2.2.2⟩
theorem Sts.next {n0 k : Nat} {w0 w : World} {xv yv : Value} {R : List Rec} (h : Sts n0 k w0 w xv yv R) : Sts n0 (k + 1) w0 w xv yv R := ⟨h.1.next, h.2.1, h.2.2.1, h.2.2.2.1, h.2.2.2.2.1, by have := h.2.2.2.2.2; omega⟩
theorem Sts.mid {n0 k i : Nat} {w0 w W : World} {xv yv : Value} {R : List Rec} (h : Sts n0 k w0 w xv yv R) (hi : i < R.length) (hC : Ch (onB (R.getD i r00).g) w W) :
    IsR W (R.getD i r00).q (R.getD i r00).r (R.getD i r00).s (R.getD i r00).ss ∧ ∀ b t, t ≠ 84 → TyB w b t → W.heap[b]? = w.heap[b]? := by
  obtain ⟨tp, tg⟩ := (h.1.u i hi).ty
  obtain ⟨tq, tr, ts⟩ := (h.1.d i hi).ty
  have kp : ∀ b t, t ≠ 84 → TyB w b t → W.heap[b]? = w.heap[b]? := fun b t ht hb => hC.block b hb.lt (show ¬ b = _ from hb.ne tg ht)
  exact ⟨(h.1.d i hi).of_heap (kp _ _ (by decide) tq) (kp _ _ (by decide) tr) (kp _ _ (by decide) ts), kp⟩
theorem Sts.step {n0 k i : Nat} {w0 w W1 W2 : World} {xv yv : Value} {R : List Rec} (h : Sts n0 k w0 w xv yv R) (hn : n0 ≤ w.heap.size) (hi : i < R.length) (S : List Stt) (hC1 : Ch (onB (R.getD i r00).g) w W1) (hU : IsU W1 (R.getD i r00).p (R.getD i r00).g S)
    (hC2 : Ch (onR (R.getD i r00).r (R.getD i r00).s) W1 W2) (hR : IsR W2 (R.getD i r00).q (R.getD i r00).r (R.getD i r00).s S) (hlen : S.length = (R.getD i r00).ss.length) (hB : BndT (k + 1) S) : Sts n0 (k + 1) w0 W2 xv yv (R.set i { R.getD i r00 with ss := S }) := by
  obtain ⟨tp, tg⟩ := (h.1.u i hi).ty
  obtain ⟨tq, tr, ts⟩ := (h.1.d i hi).ty
  have kp : ∀ b t, t ≠ 84 → t ≠ 4 → t ≠ 3 → TyB w b t → W2.heap[b]? = w.heap[b]? := fun b t h1 h2 h3 hb =>
    (hC2.block b (Nat.lt_of_lt_of_le hb.lt hC1.size) (by rintro (e | e); exact hb.ne tr h2 e; exact hb.ne ts h3 e)).trans (hC1.block b hb.lt (show ¬ b = _ from hb.ne tg h1))
  obtain ⟨b1, b2, b3, _⟩ := h.1.b i hi
  refine ⟨h.1.step hi S hC1 hU hC2 hR hlen hB, ?_, ?_, ?_, by rw [List.length_set]; exact h.2.2.2.2.1, by rw [List.length_set]; have := h.2.2.2.2.2; omega⟩
  · rw [List.length_set, ptX_set _ _ hi]
    exact own_keep h.2.1 fun b hb => kp b 43 (by decide) (by decide) (by decide) hb
  · rw [List.length_set, ptY_set _ _ hi]
    exact own_keep h.2.2.1 fun b hb => kp b 46 (by decide) (by decide) (by decide) hb
  · exact (h.2.2.2.1.trans (hC1.below hn fun j hj => by have : j = _ := hj; omega)).trans (hC2.below (Nat.le_trans hn hC1.size) fun j hj => by rcases hj with e | e <;> omega)
/-- one pointer more at a row's end -/
theorem app_ptr (sl e : TypeId) (i : TypeInfo) (hu : Try.prog.underlying sl = some (.slice e)) (hi : Try.prog.info? e = some i) (hz : i.zero = some (.pointer none)) (hs : i.size = 1) (hb : i.bytes = 8)
    {w : World} {n0 n : Nat} {v : Value} {xs : List Value} (h : w.ownsRow n0 e 1 v n xs) (hn0 : n0 ≤ w.heap.size) (hn : n ≤ 8796093022208) (p : Nat) :
    ∃ v' W, (Builtin.append_ #[sl, sl] sl #[v, .slice (some ⟨w.heap.size, 0, none⟩) 1 1]).run Try.prog (w.alloc (.cells #[.pointer (some ⟨p, 0, none⟩)] e)) = .ok v' W ∧ W.ownsRow n0 e 1 v' (n + 1) (xs ++ [.pointer (some ⟨p, 0, none⟩)]) ∧ (∀ b t, t ≠ e → TyB w b t → W.heap[b]? = w.heap[b]?) ∧ Below n0 w W ∧ w.heap.size ≤ W.heap.size := by
  have hb0 : Below w.heap.size w (w.alloc (.cells #[.pointer (some ⟨p, 0, none⟩)] e)) := (Below.refl _ w).alloc (Nat.le_refl _) _
  have h' := own_below h hb0
  obtain ⟨v', W, hap, hown, hgr, _, _⟩ := run_append_own_at (P := Try.prog) (w := w.alloc (.cells #[.pointer (some ⟨p, 0, none⟩)] e)) n0 sl sl e i (.pointer none) 1 8 hu hi hz hs hb rfl (by decide) _ _ _ h' ⟨w.heap.size, 0, none⟩ 1 1 [.pointer (some ⟨p, 0, none⟩)] rfl
    (fun j u hu => by rw [show (⟨w.heap.size, 0, none⟩ : Addr).add j = ⟨w.heap.size, j, none⟩ by simp [Addr.add]; intro h; exact h.symm, cell_of_row _ _ _ _ _ _ (block_new w _)]; simpa using hu)
    (by intro u hu; simp at hu; subst hu; rfl) (by unfold maxLen; omega) (by omega) (by simp; omega)
  refine ⟨v', W, hap, hown, fun b t ht hbt => ?_, ?_, Nat.le_trans hb0.size hgr.size⟩
  · have hbt' : TyB (w.alloc (.cells #[.pointer (some ⟨p, 0, none⟩)] e)) b t := by
      obtain ⟨c, f, hc⟩ := hbt; exact ⟨c, f, block_alloc hc _⟩
    exact (hgr.block b hbt'.lt fun x => (own_ty h' b x.symm).ne hbt' (Ne.symm ht) rfl).trans (hb0.block b hbt.lt)
  · exact (hb0.mono hn0).grown hgr (Nat.le_trans hn0 hb0.size) fun j ej => (h'.lt j ej).1
theorem Sts.cloned {n0 k i p' g' q' r' s' : Nat} {w0 w W1 W3 W4 W6 : World} {xv yv xv' yv' : Value} {R : List Rec} (h : Sts n0 k w0 w xv yv R) (hn : n0 ≤ w.heap.size) (hi : i < R.length)
    (h1 : IsU W1 p' g' (R.getD i r00).ss) (h1g : w.heap.size ≤ g') (h1b : Below w.heap.size w W1)
    (h3o : W3.ownsRow n0 43 1 xv' (R.length + 1) (ptX R ++ [.pointer (some ⟨p', 0, none⟩)])) (h3k : ∀ b t, t ≠ 43 → TyB W1 b t → W3.heap[b]? = W1.heap[b]?) (h3b : Below n0 W1 W3) (h3s : W1.heap.size ≤ W3.heap.size)
    (h4 : IsR W4 q' r' s' (R.getD i r00).ss) (h4r : W3.heap.size ≤ r') (h4s : W3.heap.size ≤ s') (h4b : Below W3.heap.size W3 W4)
    (h6o : W6.ownsRow n0 46 1 yv' (R.length + 1) (ptY R ++ [.pointer (some ⟨q', 0, none⟩)])) (h6k : ∀ b t, t ≠ 46 → TyB W4 b t → W6.heap[b]? = W4.heap[b]?) (h6b : Below n0 W4 W6) :
    Sts n0 (k + 1) w0 W6 xv' yv' (R ++ [⟨p', g', q', r', s', (R.getD i r00).ss⟩]) := by
  have nk : ∀ t, okTy t → t ≠ 43 ∧ t ≠ 46 := fun t ht => by unfold okTy at ht; omega
  have ty4 : ∀ b t, TyB W3 b t → TyB W4 b t := fun b t ⟨c, f, hc⟩ => ⟨c, f, (h4b.block b (block_lt hc)).trans hc⟩
  have ty3 : ∀ b t, t ≠ 43 → TyB W1 b t → TyB W3 b t := fun b t ht ⟨c, f, hc⟩ => ⟨c, f, (h3k b t ht ⟨c, f, hc⟩).trans hc⟩
  -- blocks of the kinds at hand, from the clone to the end
  have k16 : ∀ b t, okTy t → TyB W1 b t → W6.heap[b]? = W1.heap[b]? := fun b t ht hb =>
    ((h6k b t (nk t ht).2 (ty4 b t (ty3 b t (nk t ht).1 hb))).trans (h4b.block b (ty3 b t (nk t ht).1 hb).lt)).trans (h3k b t (nk t ht).1 hb)
  have s1 := h1b.size
  have s4 := h4b.size
  have hl := h.2.2.2.2
  obtain ⟨b1, b2, b3, b4, b5⟩ := h.1.b i hi
  refine ⟨?_, ?_, ?_, ?_, by rw [List.length_append, List.length_singleton]; omega, by rw [List.length_append, List.length_singleton]; omega⟩
  · refine ((h.1.below h1b).keep k16).next.snoc (m := w.heap.size) _ ?_ ?_ ⟨by show n0 ≤ g'; omega, by show n0 ≤ r'; omega, by show n0 ≤ s'; omega, b4, bnd_next b5⟩ (fun j hj => ⟨(h.1.u j hj).lt.2, (h.1.d j hj).lt.2.1, (h.1.d j hj).lt.2.2⟩) ⟨h1g, by show _ ≤ r'; omega, by show _ ≤ s'; omega⟩
    · obtain ⟨a, b⟩ := h1.ty
      exact h1.of_heap (k16 _ 77 (by unfold okTy; omega) a) (k16 _ 84 (by unfold okTy; omega) b)
    · obtain ⟨a, b, c⟩ := h4.ty
      exact h4.of_heap (h6k _ 81 (by decide) a) (h6k _ 4 (by decide) b) (h6k _ 3 (by decide) c)
  · rw [List.length_append, List.length_singleton, show ptX (R ++ [⟨p', g', q', r', s', (R.getD i r00).ss⟩]) = ptX R ++ [.pointer (some ⟨p', 0, none⟩)] by unfold ptX; rw [List.map_append]; rfl]
    exact own_keep (own_below h3o h4b) fun b hb => h6k b 43 (by decide) hb
  · rw [List.length_append, List.length_singleton, show ptY (R ++ [⟨p', g', q', r', s', (R.getD i r00).ss⟩]) = ptY R ++ [.pointer (some ⟨q', 0, none⟩)] by unfold ptY; rw [List.map_append]; rfl]
    exact h6o
  · exact (((h.2.2.2.1.trans (h1b.mono hn)).trans h3b).trans (h4b.mono (by omega))).trans h6b
theorem below_draw (w : World) : Below w.heap.size w w.drew := ⟨rfl, rfl, rfl, Nat.le_refl _, fun _ _ => rfl⟩
/-- two calls, one on each table: what is kept on the way, and what they leave -/
theorem Sts.two {n0 k i : Nat} {w0 w : World} {xv yv : Value} {R : List Rec} (h : Sts n0 k w0 w xv yv R) (hn : n0 ≤ w.heap.size) (hi : i < R.length) (S : List Stt) (fa fb : FuncId) (ret : Value) (pt : Int) (cs : World → Prop)
    (hcs : ∀ W : World, (∀ b t, t ≠ 84 → t ≠ 4 → t ≠ 3 → TyB w b t → W.heap[b]? = w.heap[b]?) → cs W)
    (ka : Calls Try.prog fa #[.pointer (some ⟨(R.getD i r00).p, 0, none⟩), .int .i64 pt] w fun e W => e = .returned ret ∧ IsU W (R.getD i r00).p (R.getD i r00).g S ∧ Ch (onB (R.getD i r00).g) w W)
    (kb : ∀ W, IsR W (R.getD i r00).q (R.getD i r00).r (R.getD i r00).s (R.getD i r00).ss → Calls Try.prog fb #[.pointer (some ⟨(R.getD i r00).q, 0, none⟩), .int .i64 pt] W fun e W2 => e = .returned ret ∧ IsR W2 (R.getD i r00).q (R.getD i r00).r (R.getD i r00).s S ∧ Ch (onR (R.getD i r00).r (R.getD i r00).s) W W2)
    (hlen : S.length = (R.getD i r00).ss.length) (hB : BndT (k + 1) S) :
    Calls Try.prog fa #[.pointer (some ⟨(R.getD i r00).p, 0, none⟩), .int .i64 pt] w fun e W1 => e = .returned ret ∧ cs W1 ∧ Hid (∀ W : World, (W = W1 ∨ W = W1.drew) → cs W ∧ Calls Try.prog fb #[.pointer (some ⟨(R.getD i r00).q, 0, none⟩), .int .i64 pt] W fun e W2 => e = .returned ret ∧ cs W2 ∧ Hid (∃ R', Sts n0 (k + 1) w0 W2 xv yv R')) := by
  refine ka.mono fun e W1 ⟨he, hU, hC⟩ => ?_
  obtain ⟨hR, hk⟩ := h.mid hi hC
  refine ⟨he, hcs W1 fun b t h1 _ _ hb => hk b t h1 hb, Lib.hid fun W hW => ?_⟩
  have hb : Below W1.heap.size W1 W := by
    rcases hW with rfl | rfl
    · exact Below.refl _ _
    · exact below_draw _
  have hCW : Ch (onB (R.getD i r00).g) w W := hC.then_below hb
  obtain ⟨hR2, hk2⟩ := h.mid hi hCW
  have hUW := hU.below hb
  refine ⟨hcs W fun b t h1 _ _ hb => hk2 b t h1 hb, (kb W hR2).mono fun e2 W2 ⟨he2, hI2, hC2⟩ => ⟨he2, ?_, Lib.hid ⟨_, h.step hn hi S hCW hUW hC2 hI2 hlen hB⟩⟩⟩
  obtain ⟨tq, tr, ts⟩ := (h.1.d i hi).ty
  exact hcs W2 fun b t h1 h2 h3 hb => (hC2.block b (Nat.lt_of_lt_of_le hb.lt hCW.size) (by rintro (e | e); exact hb.ne tr h2 e; exact hb.ne ts h3 e)).trans (hk2 b t h1 hb)
/-- a clone of a table and a copy of the document's, each put behind its row -/
theorem Sts.clone {n0 k i gy cy : Nat} {w0 w : World} {xv yv : Value} {R : List Rec} (h : Sts n0 k w0 w xv yv R) (hn : n0 ≤ w.heap.size) (hi : i < R.length) (hk : k ≤ 8796093022206) (hy : yv = .slice (some ⟨gy, 0, none⟩) R.length cy) :
    Calls Try.prog 26 #[.pointer (some ⟨(R.getD i r00).p, 0, none⟩)] w fun e W1 => ∃ p' xv' W3, e = .returned (.pointer (some ⟨p', 0, none⟩)) ∧
      (Builtin.append_ #[49, 49] 49 #[xv, .slice (some ⟨W1.heap.size, 0, none⟩) 1 1]).run Try.prog (W1.alloc (.cells #[.pointer (some ⟨p', 0, none⟩)] 43)) = .ok xv' W3 ∧ W3.cell? ⟨gy, i, none⟩ = some (.pointer (some ⟨(R.getD i r00).q, 0, none⟩)) ∧
      Hid (Calls Try.prog 27 #[.pointer (some ⟨(R.getD i r00).q, 0, none⟩)] W3 fun e2 W4 => ∃ q' yv' W6, e2 = .returned (.pointer (some ⟨q', 0, none⟩)) ∧
        (Builtin.append_ #[50, 50] 50 #[yv, .slice (some ⟨W4.heap.size, 0, none⟩) 1 1]).run Try.prog (W4.alloc (.cells #[.pointer (some ⟨q', 0, none⟩)] 46)) = .ok yv' W6 ∧ Hid (∃ R', Sts n0 (k + 1) w0 W6 xv' yv' R')) := by
  obtain ⟨i43, x1, x2, x3, x4⟩ := info_parts Try.info43
  obtain ⟨i46, y1, y2, y3, y4⟩ := info_parts Try.info46
  have h8 := (h.1.b i hi).2.2.2.1
  have hL := h.2.2.2.2.2
  refine (clone_any w _ _ _ (h.1.u i hi) h8).mono fun e W1 ⟨p', g', he, hU, hp, hg, hb⟩ => ?_
  have hn1 : n0 ≤ W1.heap.size := Nat.le_trans hn hb.size
  obtain ⟨xv', W3, hapX, hoX, hkX, hbX, hsX⟩ := app_ptr 49 43 i43 Try.underlying49 x1 x2 x3 x4 (own_below h.2.1 hb) hn1 (by omega) p'
  have hy1 := own_below h.2.2.1 hb
  have hy3 : W3.ownsRow n0 46 1 yv R.length (ptY R) := own_keep hy1 fun b hb => hkX b 46 (by decide) hb
  have cY : W3.cell? ⟨gy, i, none⟩ = some (.pointer (some ⟨(R.getD i r00).q, 0, none⟩)) := by
    obtain ⟨g2, c2, e2, _, hc⟩ := own_at hy3 hi
    rw [hy] at e2
    injection e2 with e2 _ _
    injection e2 with e2
    injection e2 with e2 _
    subst e2
    exact hc _ (ptY_at hi)
  have hD1 := (h.1.d i hi).below hb
  have hD3 : IsR W3 (R.getD i r00).q (R.getD i r00).r (R.getD i r00).s (R.getD i r00).ss := by
    obtain ⟨a, b, c⟩ := hD1.ty
    exact hD1.of_heap (hkX _ 81 (by decide) a) (hkX _ 4 (by decide) b) (hkX _ 3 (by decide) c)
  refine ⟨p', xv', W3, he, hapX, cY, Lib.hid ?_⟩
  refine (rcop_any W3 _ _ _ _ hD3 h8).mono fun e2 W4 ⟨q', r', s', he2, hR, hq, hr, hs, hb4⟩ => ?_
  have hn4 : n0 ≤ W4.heap.size := Nat.le_trans hn1 (Nat.le_trans hsX hb4.size)
  obtain ⟨yv', W6, hapY, hoY, hkY, hbY, _⟩ := app_ptr 50 46 i46 Try.underlying50 y1 y2 y3 y4 (own_below hy3 hb4) hn4 (by omega) q'
  exact ⟨q', yv', W6, he2, hapY, Lib.hid ⟨_, h.cloned hn hi hU hg hb hoX hkX hbX hsX hR hr hs hb4 hoY hkY hbY⟩⟩
end Go.Proofs.Ytgbmddjpaibcfaa
