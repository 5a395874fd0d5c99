/- The document's port in memory, and what its calls return. No conditions. -/
import Derived.Test.YtolcdfkkdhkpfaaBli
import Derived.Laws.OwnMore
namespace Go.Proofs.Ytolcdfkkdhkpfaa
open Go.RowKit Go.Maps Go.Sort Go.Lib
set_option linter.unusedVariables false
set_option linter.unusedSimpArgs false

/-- a slice of one-cell elements, whose row is a block of G -/
def View (G : Nat → Prop) (w : World) (v : Value) (us : List Value) : Prop :=
  (v = .slice none 0 0 ∧ us = []) ∨ ∃ b o cap, v = .slice (some ⟨b, o, none⟩) us.length cap ∧ us.length ≤ cap ∧ G b ∧ b < w.heap.size ∧ ∀ (j : Nat) (u : Value), us[j]? = some u → w.cell? ⟨b, o + j, none⟩ = some u
theorem View.keep {G : Nat → Prop} {w W : World} {v : Value} {us : List Value} (h : View G w v us) (hs : w.heap.size ≤ W.heap.size) (e : ∀ k, k < w.heap.size → G k → W.heap[k]? = w.heap[k]?) : View G W v us := by
  rcases h with h | ⟨b, o, cap, h1, h2, h3, h4, h5⟩
  · exact .inl h
  · exact .inr ⟨b, o, cap, h1, h2, h3, by omega, fun j u hu => (World.cell?_of_block (a := ⟨b, o + j, none⟩) (e b h4 h3)).trans (h5 j u hu)⟩
theorem View.mono {G H : Nat → Prop} {w : World} {v : Value} {us : List Value} (h : View G w v us) (e : ∀ k, k < w.heap.size → G k → H k) : View H w v us := by
  rcases h with h | ⟨b, o, cap, h1, h2, h3, h4, h5⟩
  · exact .inl h
  · exact .inr ⟨b, o, cap, h1, h2, e b h4 h3, h4, h5⟩
theorem View.slice {G : Nat → Prop} {w : World} {v : Value} {us : List Value} (h : View G w v us) : ∃ q cap, v = .slice q us.length cap ∧ us.length ≤ cap ∧ (0 < us.length → ∃ b o, q = some ⟨b, o, none⟩ ∧ ∀ (j : Nat) (u : Value), us[j]? = some u → w.cell? ⟨b, o + j, none⟩ = some u) := by
  rcases h with ⟨h1, h2⟩ | ⟨b, o, cap, h1, h2, h3, h4, h5⟩
  · subst h2; exact ⟨none, 0, h1, Nat.le_refl _, fun h => absurd h (by simp)⟩
  · exact ⟨_, cap, h1, h2, fun _ => ⟨b, o, rfl, h5⟩⟩
theorem View.of_own {G : Nat → Prop} {w : World} {b e n : Nat} {v : Value} {us : List Value} (h : w.ownsRow b e 1 v n us) (hG : ∀ j, v.ownBlock = some j → G j) : View G w v us := by
  have hl : us.length = n := by rw [h.1]; omega
  rcases h.2 with ⟨h1, h2⟩ | ⟨g, c, cur, e1, h1, hg, hn, _, _, htk⟩
  · exact .inl ⟨h1, List.eq_nil_of_length_eq_zero (by omega)⟩
  · refine .inr ⟨g, 0, c, by rw [e1, hl], by omega, hG g (by rw [e1]; rfl), block_lt hg, fun j u hu => ?_⟩
    obtain ⟨q, cap, e2, h3⟩ := own_slice h
    rw [e1] at e2
    injection e2 with e2 e3
    subst e2
    have hj : j < us.length := (List.getElem?_eq_some_iff.1 hu).1
    obtain ⟨g2, e4, h4⟩ := h3 (by omega)
    injection e4 with e4
    injection e4 with e4 _
    subst e4
    rw [Nat.zero_add]; exact h4 j u hu
theorem View.tail {G : Nat → Prop} {w : World} {q q' : Option Addr} {n cap : Nat} {u : Value} {us : List Value} (h : View G w (.slice q n cap) (u :: us)) (hq : ∀ b o, q = some ⟨b, o, none⟩ → (cap = 1 → q' = some ⟨b, o, none⟩) ∧ (cap ≠ 1 → q' = some ⟨b, o + 1, none⟩)) : View G w (.slice q' us.length (cap - 1)) us := by
  rcases h with ⟨h1, h2⟩ | ⟨b, o, cap', h1, h2, h3, h4, h5⟩
  · cases h2
  · injection h1 with e1 e2 e3
    subst e3
    have h2' : us.length + 1 ≤ cap := by simpa using h2
    obtain ⟨a1, a2⟩ := hq b o e1
    by_cases hc : cap = 1
    · have hz : us = [] := List.eq_nil_of_length_eq_zero (by omega)
      subst hz
      rw [a1 hc]
      exact .inr ⟨b, o, cap - 1, rfl, by simp, h3, h4, fun j u hu => by simp at hu⟩
    · rw [a2 hc]
      exact .inr ⟨b, o + 1, cap - 1, rfl, by omega, h3, h4, fun j v hv => by
        have := h5 (j + 1) v (by simpa using hv)
        rw [show o + (j + 1) = o + 1 + j by omega] at this; exact this⟩
/-- a slice is appended to an own row -/
theorem app_view {W : World} {base : Nat} (sl e : TypeId) (i : TypeInfo) (z : Value) (bytes : Nat) (ht : Try.prog.underlying sl = some (.slice e)) (hi : Try.prog.info? e = some i) (hz : i.zero = some z) (hsize : i.size = 1) (hby : i.bytes = bytes) (hzs : z.cells.size = 1)
    {v vx : Value} {n : Nat} {xs us : List Value} {G : Nat → Prop} (ho : W.ownsRow base e 1 v n xs) (hv : View G W vx us) (h1 : ∀ u ∈ us, u.oneCell' = true) (hn : (n + us.length) * bytes ≤ 140737488355328) (hn2 : n + us.length ≤ maxLen) (hb : base ≤ W.heap.size) :
    ∃ q' cap' W', (Builtin.append_ #[sl, sl] sl #[v, vx]).run Try.prog W = .ok (.slice q' (n + us.length) cap') W' ∧ W'.ownsRow base e 1 (.slice q' (n + us.length) cap') (n + us.length) (xs ++ us) ∧ W.grownBy W' v.ownBlock ∧ ((Value.slice q' (n + us.length) cap').ownBlock = v.ownBlock ∨ (Value.slice q' (n + us.length) cap').ownBlock = some W.heap.size) := by
  rcases hv with ⟨e1, e2⟩ | ⟨b, o, cap, e1, h2, h3, h4, h5⟩
  · subst e1; subst e2
    have hr := run_append_owned_none (P := Try.prog) (w := W) base sl sl e i 1 ht hi v n xs ho
    obtain ⟨q, cap, hv, _⟩ := own_slice ho
    refine ⟨q, cap, W, ?_, ?_, ⟨rfl, rfl, rfl, Nat.le_refl _, fun _ _ _ => rfl⟩, ?_⟩
    · rw [hr, hv]; rfl
    · rw [List.append_nil]; rw [hv] at ho; exact ho
    · rw [hv]; exact .inl rfl
  · subst e1
    obtain ⟨v', W', hr, hown, hgr, _, hob⟩ := run_append_own_at (P := Try.prog) (w := W) base sl sl e i z 1 bytes ht hi hz hsize hby hzs (by decide) v n xs ho ⟨b, o, none⟩ us.length cap us (by omega) (fun j u hu => by rw [addr_at]; exact h5 j u hu) h1 hn2 hn hb
    obtain ⟨q', cap', rfl, _⟩ := own_slice hown
    exact ⟨q', cap', W', hr, hown, hgr, hob⟩
def iV (x : Int) : Value := .int .i64 x
/-- the document's port at r -/
def IsR (W : World) (G : Nat → Prop) (c : Cf) (r : Nat) (t : Po) : Prop :=
  (c.kind = t.kind ∧ c.size = t.size ∧ c.dep = (t.dep : Int)) ∧ ∃ vL vT, W.heap[r]? = some (.cells #[.int .i64 c.kind, .int .i64 c.frm, .int .i64 c.to, .int .i64 c.size, .int .i64 c.dep, vL, vT, .int .i64 (t.lost : Int)] 48 (0, 0)) ∧ View G W vL (t.l.map .string) ∧ ∃ ts : List Int, View G W vT (ts.map iV) ∧ ts.length = t.l.length ∧ (t.kind = 0 → t.l ≠ [] → ts[0]? = some t.sent)
theorem IsR.ltr {W : World} {G : Nat → Prop} {c : Cf} {r : Nat} {t : Po} (h : IsR W G c r t) : r < W.heap.size := by
  obtain ⟨_, vL, vT, h1, _⟩ := h; exact block_lt h1
theorem IsR.ty {W : World} {G : Nat → Prop} {c : Cf} {r : Nat} {t : Po} (h : IsR W G c r t) : TyB W r 48 := by
  obtain ⟨_, vL, vT, h1, _⟩ := h; exact ⟨_, _, h1⟩
theorem IsR.keep {W W' : World} {G : Nat → Prop} {c : Cf} {r : Nat} {t : Po} (h : IsR W G c r t) (hs : W.heap.size ≤ W'.heap.size) (hr : W'.heap[r]? = W.heap[r]?) (e : ∀ k, k < W.heap.size → G k → W'.heap[k]? = W.heap[k]?) : IsR W' G c r t := by
  obtain ⟨h0, vL, vT, h1, h2, ts, h3, h4⟩ := h
  exact ⟨h0, vL, vT, hr.trans h1, h2.keep hs e, ts, h3.keep hs e, h4⟩
theorem IsR.below {W W' : World} {G : Nat → Prop} {c : Cf} {r : Nat} {t : Po} (h : IsR W G c r t) (hb : Below W.heap.size W W') : IsR W' G c r t := h.keep hb.size (hb.block r h.ltr) fun k hk _ => hb.block k hk
theorem IsR.mono {W : World} {G H : Nat → Prop} {c : Cf} {r : Nat} {t : Po} (h : IsR W G c r t) (e : ∀ k, k < W.heap.size → G k → H k) : IsR W H c r t := by
  obtain ⟨h0, vL, vT, h1, h2, ts, h3, h4⟩ := h
  exact ⟨h0, vL, vT, h1, h2.mono e, ts, h3.mono e, h4⟩
/-- what a call on the document's port leaves -/
def RefP (W : World) (G : Nat → Prop) (c : Cf) (r : Nat) (v : Value) (t : Po) (e : Ending) (w' : World) : Prop := e = .returned v ∧ IsR w' (nw G W w') c r t ∧ Ch (fun k => k = r) W w'
theorem IsR.cells {W : World} {G : Nat → Prop} {c : Cf} {r : Nat} {t : Po} (h : IsR W G c r t) : ∃ qL cL qT cT, W.cell? ⟨r, 0, none⟩ = some (.int .i64 c.kind) ∧ W.cell? ⟨r, 3, none⟩ = some (.int .i64 c.size) ∧ W.cell? ⟨r, 4, none⟩ = some (.int .i64 c.dep) ∧ W.cell? ⟨r, 5, none⟩ = some (.slice qL t.l.length cL) ∧ W.cell? ⟨r, 6, none⟩ = some (.slice qT t.l.length cT) ∧ W.cell? ⟨r, 7, none⟩ = some (.int .i64 (t.lost : Int)) ∧ (∀ o, W.frozen? ⟨r, o, none⟩ = false) ∧
    View G W (.slice qL t.l.length cL) (t.l.map .string) ∧ ∃ ts : List Int, View G W (.slice qT t.l.length cT) (ts.map iV) ∧ ts.length = t.l.length ∧ (t.kind = 0 → t.l ≠ [] → ts[0]? = some t.sent) := by
  obtain ⟨h0, vL, vT, h1, h2, ts, h3, h4, h5⟩ := h
  obtain ⟨qL, cL, e1, _, _⟩ := h2.slice
  obtain ⟨qT, cT, e2, _, _⟩ := h3.slice
  rw [List.length_map] at e1 e2
  rw [h4] at e2
  subst e1; subst e2
  refine ⟨qL, cL, qT, cT, ?_, ?_, ?_, ?_, ?_, ?_, fun o => block_free h1, h2, ts, h3, h4, h5⟩
  all_goals (rw [cell_of_row _ _ _ _ _ _ h1]; rfl)
theorem rclear_any (W : World) (G : Nat → Prop) (c : Cf) (r : Nat) (t : Po) (h : IsR W G c r t) : Calls Try.prog 17 #[.pointer (some ⟨r, 0, none⟩)] W (RefP W G c r (.tuple #[]) (clearS t)) := by
  obtain ⟨qL, cL, qT, cT, c0, c3, c4, c5, c6, c7, fz, _⟩ := h.cells
  have f5 := fz 5
  have f6 := fz 6
  have f7 := fz 7
  clear fz
  have H : Hid (RefP W G c r (.tuple #[]) (clearS t) (.returned (.tuple #[])) (((W.setCell ⟨r, 5, none⟩ (.slice none 0 0)).setCell ⟨r, 6, none⟩ (.slice none 0 0)).setCell ⟨r, 7, none⟩ (.int .i64 0))) := Lib.hid (by
    obtain ⟨h0, vL, vT, h1, _⟩ := h
    exact ⟨rfl, ⟨h0, .slice none 0 0, .slice none 0 0, block_setCell (block_setCell (block_setCell h1)), .inl ⟨rfl, rfl⟩, [], .inl ⟨rfl, rfl⟩, rfl, fun _ x => absurd rfl x⟩, (((Ch.refl (fun k => k = r) W).setCell rfl _ _).setCell rfl _ _).setCell rfl _ _⟩)
  clear h
  go_enter Try.func17, Try.ntmps17
  go_wp2
  go_end0
  exact H.out
def RnewP (W : World) (G : Nat → Prop) (c : Cf) (t : Po) (f : Value → Value) (e : Ending) (w' : World) : Prop := ∃ r, e = .returned (f (.pointer (some ⟨r, 0, none⟩))) ∧ IsR w' G c r t ∧ W.heap.size ≤ r ∧ Below W.heap.size W w'
theorem rcopy_any (W : World) (G : Nat → Prop) (c : Cf) (r : Nat) (t : Po) (h : IsR W G c r t) : Calls Try.prog 19 #[.pointer (some ⟨r, 0, none⟩)] W (RnewP W G c t id) := by
  obtain ⟨h0, vL, vT, h1, h2, ts, h3, h4⟩ := h
  obtain ⟨qL, cL, rfl, _⟩ := h2.slice
  obtain ⟨qT, cT, rfl, _⟩ := h3.slice
  generalize (List.map Value.string t.l).length = nL at *
  generalize (List.map iV ts).length = nT at *
  have x0 : W.cell? ⟨r, 0, none⟩ = some (.int .i64 c.kind) := by rw [cell_of_row _ _ _ _ _ _ h1]; rfl
  have x1 : W.cell? ⟨r, 1, none⟩ = some (.int .i64 c.frm) := by rw [cell_of_row _ _ _ _ _ _ h1]; rfl
  have x2 : W.cell? ⟨r, 2, none⟩ = some (.int .i64 c.to) := by rw [cell_of_row _ _ _ _ _ _ h1]; rfl
  have x3 : W.cell? ⟨r, 3, none⟩ = some (.int .i64 c.size) := by rw [cell_of_row _ _ _ _ _ _ h1]; rfl
  have x4 : W.cell? ⟨r, 4, none⟩ = some (.int .i64 c.dep) := by rw [cell_of_row _ _ _ _ _ _ h1]; rfl
  have x5 : W.cell? ⟨r, 5, none⟩ = some (.slice qL nL cL) := by rw [cell_of_row _ _ _ _ _ _ h1]; rfl
  have x6 : W.cell? ⟨r, 6, none⟩ = some (.slice qT nT cT) := by rw [cell_of_row _ _ _ _ _ _ h1]; rfl
  have x7 : W.cell? ⟨r, 7, none⟩ = some (.int .i64 (t.lost : Int)) := by rw [cell_of_row _ _ _ _ _ _ h1]; rfl
  have H : Hid (RnewP W G c t id (.returned (.pointer (some ⟨W.heap.size, 0, none⟩))) (W.alloc (.cells #[.int .i64 c.kind, .int .i64 c.frm, .int .i64 c.to, .int .i64 c.size, .int .i64 c.dep, .slice qL nL cL, .slice qT nT cT, .int .i64 (t.lost : Int)] 48))) := Lib.hid (by
    have hb : Below W.heap.size W (W.alloc (.cells #[.int .i64 c.kind, .int .i64 c.frm, .int .i64 c.to, .int .i64 c.size, .int .i64 c.dep, .slice qL nL cL, .slice qT nT cT, .int .i64 (t.lost : Int)] 48)) := (Below.refl _ W).alloc (Nat.le_refl _) _
    exact ⟨_, rfl, ⟨h0, _, _, block_new _ _, h2.keep hb.size (fun k hk _ => hb.block k hk), ts, h3.keep hb.size (fun k hk _ => hb.block k hk), h4⟩, Nat.le_refl _, hb⟩)
  clear h0 h1 h2 h3 h4
  go_enter Try.func19, Try.ntmps19
  go_wp2
  go_ret
  exact H.out
set_option maxHeartbeats 2000000 in
theorem rnew_no (w : World) (c : Cf) (h : ¬ okC c) : Calls Try.prog 8 #[c.agg] w fun e w' => e = .returned (.tuple #[.pointer none, .int .i64 140]) ∧ Below w.heap.size w w' := by
  obtain ⟨W, hW⟩ : ∃ W, W = w.alloc (.cells #[.int .i64 c.kind, .int .i64 c.frm, .int .i64 c.to, .int .i64 c.size, .int .i64 c.dep] 23) := ⟨_, rfl⟩
  have hb : Below w.heap.size w W := by rw [hW]; exact (Below.refl _ w).alloc (Nat.le_refl _) _
  have K := Lib.hid (rcheck_any W c)
  rw [show chkE c = 140 from if_neg h] at K
  have HB := Lib.hid hb
  rw [hW] at K HB
  clear h hW hb
  unfold Cf.agg at *
  go_enter Try.func8, Try.ntmps8
  go_wp2_with (go_at_call 21; refine K.out.mono ?_; rintro e w3 ⟨rfl, hb⟩; have H := Lib.hid (HB.out.trans (hb.mono HB.out.size)); clear hb)
  go_ret2
  exact ⟨rfl, H.out⟩
set_option maxHeartbeats 2000000 in
theorem rnew_yes (w : World) (G : Nat → Prop) (c : Cf) (h : okC c) : Calls Try.prog 8 #[c.agg] w (RnewP w G c (newS c) fun v => .tuple #[v, .int .i64 0]) := by
  obtain ⟨W, hW⟩ : ∃ W, W = w.alloc (.cells #[.int .i64 c.kind, .int .i64 c.frm, .int .i64 c.to, .int .i64 c.size, .int .i64 c.dep] 23) := ⟨_, rfl⟩
  have hb : Below w.heap.size w W := by rw [hW]; exact (Below.refl _ w).alloc (Nat.le_refl _) _
  have hn : W.heap[w.heap.size]? = some (.cells #[.int .i64 c.kind, .int .i64 c.frm, .int .i64 c.to, .int .i64 c.size, .int .i64 c.dep] 23 (0, 0)) := by rw [hW]; exact block_new _ _
  have k := rcheck_any W c
  rw [show chkE c = 0 from if_pos h] at k
  have hd : ((c.dep.toNat : Nat) : Int) = c.dep := by have h6 : 1 ≤ c.dep := h.2.2.2.2.2.1; omega
  have K : Hid (Calls Try.prog 21 #[c.agg] W fun e w' => e = .returned (.int .i64 0) ∧ (w'.cell? ⟨w.heap.size, 0, none⟩ = some (.int .i64 c.kind) ∧ w'.cell? ⟨w.heap.size, 1, none⟩ = some (.int .i64 c.frm) ∧ w'.cell? ⟨w.heap.size, 2, none⟩ = some (.int .i64 c.to) ∧ w'.cell? ⟨w.heap.size, 3, none⟩ = some (.int .i64 c.size) ∧ w'.cell? ⟨w.heap.size, 4, none⟩ = some (.int .i64 c.dep)) ∧
      Hid (RnewP w G c (newS c) (fun v => .tuple #[v, .int .i64 0]) (.returned (.tuple #[.pointer (some ⟨w'.heap.size, 0, none⟩), .int .i64 0])) (w'.alloc (.cells #[.int .i64 c.kind, .int .i64 c.frm, .int .i64 c.to, .int .i64 c.size, .int .i64 c.dep, .slice none 0 0, .slice none 0 0, .int .i64 0] 48)))) := Lib.hid (k.mono fun e w' ⟨x, y⟩ => by
    have hp := (y.block _ (block_lt hn)).trans hn
    have hbw := hb.trans (y.mono hb.size)
    refine ⟨x, ⟨?_, ?_, ?_, ?_, ?_⟩, Lib.hid ⟨_, rfl, ⟨⟨rfl, rfl, hd.symm⟩, .slice none 0 0, .slice none 0 0, block_new _ _, .inl ⟨rfl, rfl⟩, [], .inl ⟨rfl, rfl⟩, rfl, fun _ x => absurd rfl x⟩, hbw.size, hbw.alloc hbw.size _⟩⟩
    all_goals (rw [cell_of_row _ _ _ _ _ _ hp]; rfl))
  rw [hW] at K
  clear h hW hb hn k hd
  unfold Cf.agg at *
  go_enter Try.func8, Try.ntmps8
  go_wp2_with (go_at_call 21; refine K.out.mono ?_; rintro e w3 ⟨rfl, ⟨x0, x1, x2, x3, x4⟩, H3⟩)
  go_ret2
  exact H3.out
end Go.Proofs.Ytolcdfkkdhkpfaa
