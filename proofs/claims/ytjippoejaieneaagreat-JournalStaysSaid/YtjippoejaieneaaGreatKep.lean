/- A block put behind in the cache: what keep leaves. No conditions but that the cache has few blocks. -/
import Derived.Test.YtjippoejaieneaaGreatGd
import Derived.Deep.RegionLaw
namespace Go.Proofs.YtjippoejaieneaaGreat
open Go.RowKit Go.Maps Go.Lib
set_option maxRecDepth 20000
set_option linter.unusedVariables false

def outL (a : Int) (l : List Bk) : List Bk := if posL a l < l.length then l.eraseIdx (posL a l) else l
def cutL (most : Nat) (l : List Bk) : List Bk := if most < l.length then l.eraseIdx 0 else l
def keepL (most : Nat) (l : List Bk) (b : Bk) : List Bk := cutL most (outL (b.at' : Int) l ++ [b])
theorem step_append_run {ops : Array Oper} {o : Oper} {a : Act} {w : World} {K : Act → World → Prop} {Q : Exit → Act → World → Prop} {E : Prop}
    (hgd : o.guard = none) (s x : Operand) (t : TypeId) (ho : o.op = .call { callee := .builtin .append, args := #[s, x], argTypes := #[t, t] }) (vs vx v' : Value) (w' : World) (hs : a.eval s = vs) (hx : a.eval x = vx)
    (hr : (Builtin.append_ #[t, t] o.type #[vs, vx]).run Tryz.prog w = .ok v' w') (hK : K (a.put o.dst v') w') : if Region.wanted o (yielded ops a.tmps) = true then Oper.wp Tryz.prog o a w K Q else E := by
  have hw : Region.wanted o (yielded ops a.tmps) = true := by simp [Region.wanted, hgd]
  rw [if_pos hw]
  unfold Oper.wp execOp
  simp only [ho, resolve, invoke, builtin, Sem.run_bind, Sem.run_pure, Result.andThen_ok, List.map_toArray, List.map_cons, List.map_nil, hs, hx, hr]
  exact hK
theorem dv3 (p : Nat) (v u : Value) (V : Dv) (l : List Bk) : (dvCells p v V).setIfInBounds 3 u = dvCells p u { V with l := l } := rfl
/-- the same, its slice named -/
def IsW (w : World) (F : Nat → Prop) (x p : Nat) (V : Dv) (v : Value) : Prop :=
  F x ∧ w.heap[x]? = some (.cells (dvCells p v V) 117 (0, 0)) ∧ w.ownsRow 0 149 3 v V.l.length (rowL V.l) ∧ (∀ j, v.ownBlock = some j → F j) ∧ V.l.length ≤ 17
theorem IsW.to {w : World} {F : Nat → Prop} {x p : Nat} {V : Dv} {v : Value} (h : IsW w F x p V v) : IsV w F x p V := ⟨h.1, v, h.2.1, h.2.2.1, h.2.2.2.1, h.2.2.2.2⟩
def ToW (F : Nat → Prop) (w w' : World) (x p : Nat) (V : Dv) (v : Value) : Prop := ∃ F', IsW w' F' x p V v ∧ Gr F F' w w' ∧ Ch F w w'
/-- a new slice stored in the extent -/
theorem putV {w' : World} {F' : Nat → Prop} {x p : Nat} {V : Dv} {v u : Value} {l : List Bk} (hx : w'.heap[x]? = some (.cells (dvCells p v V) 117 (0, 0))) (hFx : F' x)
    (ho : w'.ownsRow 0 149 3 u l.length (rowL l)) (hF : ∀ j, u.ownBlock = some j → F' j) (hl : l.length ≤ 17) : IsW (w'.setCell ⟨x, 3, none⟩ u) F' x p { V with l := l } u :=
  ⟨hFx, by rw [block_setCell hx, dv3 p v u V l], own_keep ho (fun j hj => block_setCell_other (x := ⟨x, 3, none⟩) (own_ne ho hx hj)), hF, hl⟩
theorem IsV.del {w w3 : World} {F : Nat → Prop} {x p g cap : Nat} {V : Dv} {v : Value} {k : Nat} (hx : w.heap[x]? = some (.cells (dvCells p v V) 117 (0, 0))) (hF0 : F x) (ho : w.ownsRow 0 149 3 v V.l.length (rowL V.l)) (hF : ∀ j, v.ownBlock = some j → F j) (few : V.l.length ≤ 17)
    (hv : v = .slice (some ⟨g, 0, none⟩) V.l.length cap) (h3 : w3.ownsRow 0 149 3 (.slice (some ⟨g, 0, none⟩) (V.l.length - 1) cap) (V.l.eraseIdx k).length (rowL (V.l.eraseIdx k))) (hon : On g w w3) :
    ToW F w (w3.setCell ⟨x, 3, none⟩ (.slice (some ⟨g, 0, none⟩) (V.l.length - 1) cap)) x p { V with l := V.l.eraseIdx k } (.slice (some ⟨g, 0, none⟩) (V.l.length - 1) cap) ∧ w3.cell? ⟨x, 3, none⟩ = some v ∧ w3.frozen? ⟨x, 3, none⟩ = false := by
  have hgx : g ≠ x := own_ne ho hx (by rw [hv]; rfl)
  have hFg : F g := hF g (by rw [hv]; rfl)
  have hx3 : w3.heap[x]? = some (.cells (dvCells p v V) 117 (0, 0)) := (hon.block x (fun e => hgx e.symm)).trans hx
  have hc : Ch F w w3 := ⟨hon.os, hon.tape, hon.output, by rw [hon.size]; exact Nat.le_refl _, fun k _ hn => hon.block k (fun e => hn (by rw [e]; exact hFg))⟩
  refine ⟨⟨F, putV hx3 hF0 h3 (fun j hj => ?_) (by have := List.length_eraseIdx_le V.l k; omega), Gr.refl _ _ _, hc.setCell hF0 _ _⟩, ?_, block_free hx3⟩
  · injection hj with hj; rw [← hj]; exact hFg
  · rw [cell_of_row _ _ _ _ _ _ hx3]; rfl
def bkObj (b : Bk) : Obj := .cells #[.int .i64 (b.at' : Int), .string (ofL b.data), .int .i64 b.st] 149
theorem IsV.app {w : World} {F : Nat → Prop} {x p : Nat} {V : Dv} {v : Value} (b : Bk) (hx : w.heap[x]? = some (.cells (dvCells p v V) 117 (0, 0))) (hF0 : F x) (ho : w.ownsRow 0 149 3 v V.l.length (rowL V.l)) (hF : ∀ j, v.ownBlock = some j → F j) (few : V.l.length ≤ 16) :
    ∃ g cap w', (Builtin.append_ #[115, 115] 115 #[v, .slice (some ⟨w.heap.size, 0, none⟩) 1 1]).run Tryz.prog (w.alloc (bkObj b)).drew = .ok (.slice (some ⟨g, 0, none⟩) (V.l.length + 1) cap) w' ∧
      ToW F w (w'.setCell ⟨x, 3, none⟩ (.slice (some ⟨g, 0, none⟩) (V.l.length + 1) cap)) x p { V with l := V.l ++ [b] } (.slice (some ⟨g, 0, none⟩) (V.l.length + 1) cap) ∧ w'.cell? ⟨x, 3, none⟩ = some v ∧ w'.frozen? ⟨x, 3, none⟩ = false := by
  obtain ⟨i0, hi, hz0, hz1, hz2⟩ := info_parts Tryz.info149
  obtain ⟨W2, hW2⟩ : ∃ W2, W2 = (w.alloc (bkObj b)).drew := ⟨_, rfl⟩
  have b2 : Below w.heap.size w W2 := by rw [hW2]; exact ((Below.refl _ w).alloc (Nat.le_refl _) _).drew
  have hb2 : W2.heap[w.heap.size]? = some (bkObj b) := by rw [hW2]; exact heap_alloc_new w _
  have hx2 := (b2.block x (block_lt hx)).trans hx
  have ho2 := own_keep ho (W := W2) (fun j hj => b2.block j (own_lt ho hj))
  obtain ⟨v', w', hr, hown, hg, -, hat⟩ := run_append_own_at (P := Tryz.prog) (w := W2) 0 115 115 149 i0 _ 3 32 Tryz.underlying115 hi hz0 hz1 hz2 rfl (by decide) v _ _ ho2 ⟨w.heap.size, 0, none⟩ 1 1 b.cells rfl (fun j u hj => by
    rw [addr_at, Nat.zero_add, cell_of_row W2 _ j _ _ _ hb2]
    simpa [Bk.cells] using hj) (by intro u hu; unfold Bk.cells at hu; simp at hu; rcases hu with rfl | rfl | rfl <;> rfl) (by unfold maxLen; omega) (by omega) (Nat.zero_le _)
  have el : (V.l ++ [b]).length = V.l.length + 1 := by simp
  have er : rowL V.l ++ b.cells = rowL (V.l ++ [b]) := by rw [rowL_append]; rfl
  rw [er, ← el] at hown
  obtain ⟨q, cap, e1⟩ := own_sl hown
  obtain ⟨g, rfl⟩ : ∃ g, q = some ⟨g, 0, none⟩ := by
    rcases hown.2 with ⟨_, z⟩ | ⟨g, c, cur, e2, _⟩
    · omega
    · rw [e1] at e2; injection e2 with e2; exact ⟨g, e2⟩
  rw [el] at e1
  subst e1
  have hxb : some x ≠ v.ownBlock := fun e => own_ne ho2 hx2 e.symm rfl
  have hx3 : w'.heap[x]? = some (.cells (dvCells p v V) 117 (0, 0)) := (hg.block x (block_lt hx2) hxb).trans hx2
  have hsz : w.heap.size < W2.heap.size := block_lt hb2
  have hgl : g < w'.heap.size := own_lt hown rfl
  have hc : Ch F w w' := ⟨hg.os.trans b2.os, hg.tape.trans b2.tape, hg.output.trans b2.output, Nat.le_trans b2.size hg.size, fun k hk hn => (hg.block k (by omega) (fun e => hn (hF k e.symm))).trans (b2.block k hk)⟩
  refine ⟨g, cap, w', by rw [← hW2]; exact hr, ⟨fun k => F k ∨ (w.heap.size ≤ k ∧ k < w'.heap.size), putV hx3 (.inl hF0) hown (fun j hj => ?_) (by rw [el]; omega), fun k hk => ?_, hc.setCell hF0 _ _⟩, ?_, block_free hx3⟩
  · injection hj with hj
    subst hj
    rcases hat with e | e
    · exact .inl (hF g (by rw [← e]; rfl))
    · injection e with e
      have e : g = W2.heap.size := e
      exact .inr ⟨by omega, hgl⟩
  · simpa [World.setCell] using hk
  · rw [cell_of_row _ _ _ _ _ _ hx3]; rfl
theorem outL_len (a : Int) (l : List Bk) : (outL a l).length ≤ l.length := by
  unfold outL; split
  · exact List.length_eraseIdx_le _ _
  · exact Nat.le_refl _
theorem cell3 {w : World} {g : Nat} {b : Bk} (h : w.heap[g]? = some (bkObj b)) : w.cell? ⟨g, 0, none⟩ = some (.int .i64 (b.at' : Int)) ∧ w.cell? ⟨g, 1, none⟩ = some (.string (ofL b.data)) ∧ w.cell? ⟨g, 2, none⟩ = some (.int .i64 b.st) := by
  unfold bkObj at h
  refine ⟨?_, ?_, ?_⟩ <;> (rw [cell_of_row _ _ _ _ _ _ h]; rfl)

set_option maxHeartbeats 4000000 in
theorem keep_any (F : Nat → Prop) (x p : Nat) (V : Dv) (b : Bk) (w : World) (h : IsV w F x p V) (hF : ∀ k, F k → k < w.heap.size) (few : V.l.length ≤ 16) :
    Calls Tryz.prog 113 #[.pointer (some ⟨x, 0, none⟩), b.agg] w fun e w' => e = .returned (.tuple #[]) ∧ ToV F w w' x p { V with l := keepL V.most V.l b } := by
  have hb1 : Below w.heap.size w (w.alloc (bkObj b)) := (Below.refl _ w).alloc (Nat.le_refl _) _
  have i1 := h.below hb1
  have hbx : (w.alloc (bkObj b)).heap[w.heap.size]? = some (bkObj b) := block_new w _
  have hnF : ¬ F w.heap.size := fun q => by have := hF _ q; omega
  have kp := placeOf_any F x p V (b.at' : Int) _ i1
  obtain ⟨kx, kx1, kx2⟩ := cell3 hbx
  have HB : Hid (∀ W, Ch F (w.alloc (bkObj b)) W → W.heap[w.heap.size]? = some (bkObj b)) := fun W hW => (hW.block _ (by simp) hnF).trans hbx
  have HI := Lib.hid i1
  have HC1 : Hid (Ch F w (w.alloc (bkObj b))) := Ch.of_below hb1
  have HS : Hid (w.heap.size ≤ (w.alloc (bkObj b)).heap.size) := hb1.size
  have HFEW := Lib.hid few
  by_cases q : posL (b.at' : Int) V.l < V.l.length
  · -- True True
    have HE : Hid (outL (b.at' : Int) V.l = V.l.eraseIdx (posL (b.at' : Int) V.l)) := if_pos q
    have e1 : posI (b.at' : Int) V.l = (posL (b.at' : Int) V.l : Int) := by unfold posI; rw [if_pos q]
    rw [e1] at kp
    clear e1
    have hk : posL (b.at' : Int) V.l < V.l.length := q
    obtain ⟨k, hkk⟩ : ∃ k, k = posL (b.at' : Int) V.l := ⟨_, rfl⟩
    rw [← hkk] at kp HE hk
    have hk17 : (k : Int) < 17 := by omega
    have HKK := Lib.hid hk
    have HQ := Lib.hid q
    clear hb1 i1 h hbx hnF hF few q hkk hk
    unfold Bk.agg
    go_enter Tryz.func113, Tryz.ntmps113
    go_wp2_with (first
      | (go_at_call 134; refine kp.mono ?_; rintro e w2 ⟨rfl, hb2⟩; obtain ⟨h0, v, hx, ho, hFv, few⟩ := HI.out.below hb2; obtain ⟨g, cap, hv⟩ : ∃ g cap, v = .slice (some ⟨g, 0, none⟩) V.l.length cap := (by rcases ho.2 with ⟨_, z⟩ | ⟨g, c, cur, e1, _⟩; (exfalso; have := HKK.out; omega); exact ⟨g, c, e1⟩); have c3 := (IsV.cells (F := F) hx).2.2.2.1; rw [hv] at c3; have HX := Lib.hid (And.intro hx (And.intro h0 (And.intro ho (And.intro hFv (And.intro few (And.intro hv hb2)))))); have kd := del_any g cap k V.l w2 HKK.out (by rw [← hv]; exact ho); clear hx h0 ho hFv few hv hb2)
      | (go_at_call 136; refine kd.mono ?_; rintro e w3 ⟨rfl, own3, on3⟩; obtain ⟨hx, h0, ho, hFv, few, hv, hb2⟩ := HX.out; have d := IsV.del hx h0 ho hFv few hv own3 on3; have d3 := d.2.1; have f3 := d.2.2; rw [hv] at d3; have HD := Lib.hid (And.intro d.1 hb2); clear own3 on3 hx h0 ho hFv few hv hb2 d))
    obtain ⟨W4, hW4⟩ : ∃ W4, W4 = w3.setCell ⟨x, 3, none⟩ (.slice (some ⟨g, 0, none⟩) (V.l.length - 1) cap) := ⟨_, rfl⟩
    rw [← hW4]
    rw [← hW4] at HD
    obtain ⟨⟨F1, i4w, gr1, ch1⟩, hb2⟩ := HD.out
    have i4 := i4w.to
    clear i4w
    have C4 : Hid (Ch F (w.alloc (bkObj b)) W4) := (Ch.of_below hb2).trans (Gr.refl _ _ _) ch1
    have G4 : Hid (Gr F F1 (w.alloc (bkObj b)) W4) := (Gr.refl F _ _).trans gr1 hb2.size ch1.size
    clear hW4 HD HX kd d3 f3 gr1 ch1 hb2 c3
    have hl1 : (V.l.eraseIdx k).length ≤ 16 := Nat.le_trans (List.length_eraseIdx_le _ _) HFEW.out
    obtain ⟨l1, hl1e⟩ : ∃ l1, l1 = V.l.eraseIdx k := ⟨_, rfl⟩
    rw [← hl1e] at i4 HE hl1
    clear hl1e HI kp kx kx1 kx2 HQ
    have hbx4 := HB.out W4 C4.out
    obtain ⟨h0, v, hx, ho, hFv, few4⟩ := i4
    have hbx0 := hbx4
    obtain ⟨gg, cap5, w5, hr, hto, d5, f5⟩ := IsV.app b hx h0 ho hFv hl1
    have hx4 : W4.drew.heap[x]? = some (.cells (dvCells p v { V with l := l1 }) 117 (0, 0)) := hx
    have hxa : (W4.alloc (bkObj b)).drew.heap[x]? = some (.cells (dvCells p v { V with l := l1 }) 117 (0, 0)) := block_alloc hx _
    have ho : W4.ownsRow 0 149 3 v l1.length (rowL l1) := ho
    have hr : (Builtin.append_ #[115, 115] 115 #[v, .slice (some ⟨W4.heap.size, 0, none⟩) 1 1]).run Tryz.prog (W4.alloc (bkObj b)).drew = .ok (.slice (some ⟨gg, 0, none⟩) (l1.length + 1) cap5) w5 := hr
    have hto : ToW F1 W4 (w5.setCell ⟨x, 3, none⟩ (.slice (some ⟨gg, 0, none⟩) (l1.length + 1) cap5)) x p { V with l := l1 ++ [b] } (.slice (some ⟨gg, 0, none⟩) (l1.length + 1) cap5) := hto
    obtain ⟨q, c, rfl⟩ := own_sl ho
    have c3 := (IsV.cells (F := F) hx).2.2.2.1
    have c3d := (IsV.cells (F := F) hx4).2.2.2.1
    have c3a := (IsV.cells (F := F) hxa).2.2.2.1
    have c3b : (W4.alloc (bkObj b)).cell? ⟨x, 3, none⟩ = some (.slice q l1.length c) := c3a
    have hbd : W4.drew.heap[w.heap.size]? = some (bkObj b) := hbx4
    obtain ⟨k0, k1, k2⟩ := cell3 hbd
    obtain ⟨j0, j1, j2⟩ := cell3 hbx4
    obtain ⟨n, hn⟩ : ∃ n, n = l1.length := ⟨_, rfl⟩
    have hn16 : (n : Int) ≤ 16 := by omega
    simp only [← hn] at hr d5 c3 c3d c3a c3b hto
    have HR := Lib.hid hr
    have HT := Lib.hid hto
    have HN := Lib.hid hn
    clear hx ho hFv h0 few4 hx4 hxa hbd hbx4 hbx0 hr hto hl1 hn
    unfold bkObj at HR c3a c3b
    go_region_law ((refine step_append_run (by rfl) _ _ 115 (by rfl) _ _ _ w5 (by rfl) (by rfl) HR.out ?_))
    all_goals
      obtain ⟨W5, hW5⟩ : ∃ W5, W5 = w5.setCell ⟨x, 3, none⟩ (.slice (some ⟨gg, 0, none⟩) (n + 1) cap5) := ⟨_, rfl⟩
      rw [← hW5]
      rw [← hW5] at HT
      clear hto hr ho k0 k1 k2 j0 j1 j2 d5 c3 c3d c3a c3b HR hW5 f5
      obtain ⟨F2, i5, gr2, ch2⟩ := HT.out
      obtain ⟨h0, hx, ho, hFv, few5⟩ := i5
      have ho : W5.ownsRow 0 149 3 (.slice (some ⟨gg, 0, none⟩) (n + 1) cap5) (l1 ++ [b]).length (rowL (l1 ++ [b])) := ho
      have hx : W5.heap[x]? = some (.cells (dvCells p (.slice (some ⟨gg, 0, none⟩) (n + 1) cap5) V) 117 (0, 0)) := hx
      have hFv : ∀ j, (Value.slice (some ⟨gg, 0, none⟩) (n + 1) cap5).ownBlock = some j → F2 j := hFv
      have c3 : ∀ m, (W5.drewN m).cell? ⟨x, 3, none⟩ = some (.slice (some ⟨gg, 0, none⟩) (n + 1) cap5) := fun m => (IsV.cells (F := F) hx).2.2.2.1
      have c4 : ∀ m, (W5.drewN m).cell? ⟨x, 4, none⟩ = some (.int .i64 (V.most : Int)) := fun m => (IsV.cells (F := F) hx).2.2.2.2.1
      have c3' := c3 0
      have c4' := c4 0
      have el : (l1 ++ [b]).length = n + 1 := by rw [List.length_append, HN.out]; rfl
      have G5 : Hid (Gr F F2 (w.alloc (bkObj b)) W5) := G4.out.trans gr2 C4.out.size ch2.size
      have C5 : Hid (Ch F (w.alloc (bkObj b)) W5) := C4.out.trans G4.out ch2
      have CW : Hid (∀ W6 F3 l3, IsV W6 F3 x p { V with l := l3 } → Gr F2 F3 W5 W6 → Ch F2 W5 W6 → l3 = keepL V.most V.l b → ToV F w W6 x p { V with l := keepL V.most V.l b }) := fun W6 F3 l3 i6 g6 c6 e6 => by
        rw [← e6]
        exact ⟨F3, i6, (Gr.refl F _ _).trans (G5.out.trans g6 C5.out.size c6.size) HS.out (Nat.le_trans C5.out.size c6.size), HC1.out.trans (Gr.refl _ _ _) (C5.out.trans G5.out c6)⟩
      have i5 : IsV W5 F2 x p { V with l := l1 ++ [b] } := ⟨h0, _, hx, ho, hFv, few5⟩
      have HI5 := Lib.hid i5
      have HX5 := Lib.hid (And.intro h0 (And.intro hx (And.intro ho (And.intro hFv (And.intro few5 el)))))
      by_cases f : (V.most : Int) < (n : Int) + 1
      · have KD : Hid (∀ m, Calls Tryz.prog 136 #[.slice (some ⟨gg, 0, none⟩) (n + 1) cap5, .int .i64 0, .int .i64 1] (W5.drewN m) fun e w' => e = .returned (.slice (some ⟨gg, 0, none⟩) (n + 1 - 1) cap5) ∧ w'.ownsRow 0 149 3 (.slice (some ⟨gg, 0, none⟩) (n + 1 - 1) cap5) ((l1 ++ [b]).eraseIdx 0).length (rowL ((l1 ++ [b]).eraseIdx 0)) ∧ On gg (W5.drewN m) w') := fun m => by
          have kd := del_any gg cap5 0 (l1 ++ [b]) (W5.drewN m) (by rw [el]; omega) (by rw [el] at ho ⊢; exact ho)
          rw [el] at kd
          exact kd
        have HFI : Hid ((l1 ++ [b]).eraseIdx 0 = keepL V.most V.l b) := by unfold Hid keepL cutL; rw [HE.out, if_pos (by rw [el]; omega)]
        have HDL : Hid (∀ m w6, w6.ownsRow 0 149 3 (.slice (some ⟨gg, 0, none⟩) (n + 1 - 1) cap5) ((l1 ++ [b]).eraseIdx 0).length (rowL ((l1 ++ [b]).eraseIdx 0)) → On gg (W5.drewN m) w6 → w6.cell? ⟨x, 3, none⟩ = some (.slice (some ⟨gg, 0, none⟩) (n + 1) cap5) ∧ w6.frozen? ⟨x, 3, none⟩ = false ∧ ToV F w (w6.setCell ⟨x, 3, none⟩ (.slice (some ⟨gg, 0, none⟩) (n + 1 - 1) cap5)) x p { V with l := keepL V.most V.l b }) := fun m w6 own6 on6 => by
          have d := IsV.del (w := W5) (w3 := w6) (F := F2) (p := p) (g := gg) (cap := cap5) (V := { V with l := l1 ++ [b] }) (k := 0) hx h0 ho hFv few5 (by show _ = Value.slice _ (l1 ++ [b]).length _; rw [el]) (by show w6.ownsRow 0 149 3 (.slice (some ⟨gg, 0, none⟩) ((l1 ++ [b]).length - 1) cap5) _ _; rw [el]; exact own6) ⟨on6.os, on6.tape, on6.output, on6.size, on6.block⟩
          obtain ⟨⟨F3, i6, g6, c6⟩, d3, f3⟩ := d
          have el' : ({ V with l := l1 ++ [b] } : Dv).l.length = n + 1 := el
          rw [el'] at i6 c6 g6
          exact ⟨d3, f3, CW.out _ F3 _ i6.to g6 c6 HFI.out⟩
        clear h0 hx ho hFv few5 el i5 gr2 ch2
        go_wp2_with (fail)
        go_quiet (fail)
        go_wp2_with (go_at_call 136; refine (KD.out _).mono ?_; rintro e w6 ⟨rfl, own6, on6⟩; obtain ⟨d3, f3, hto⟩ := HDL.out _ w6 own6 on6; have HTO := Lib.hid hto; clear own6 on6 hto)
        go_end0
        exact ⟨rfl, HTO.out⟩
      · have HFI : Hid (l1 ++ [b] = keepL V.most V.l b) := by unfold Hid keepL cutL; rw [HE.out, if_neg (by rw [el]; omega)]
        have HTO : Hid (∀ m, ToV F w (W5.drewN m) x p { V with l := keepL V.most V.l b }) := fun m => CW.out (W5.drewN m) F2 _ (i5.of_heap fun _ _ _ => rfl) (Gr.refl _ _ _) ⟨rfl, rfl, rfl, Nat.le_refl _, fun _ _ _ => rfl⟩ HFI.out
        clear h0 hx ho hFv few5 el i5 gr2 ch2
        go_wp2_with (fail)
        go_quiet (fail)
        go_wp2
        go_end0
        exact ⟨rfl, HTO.out _⟩
  · -- False True
    have HE : Hid (outL (b.at' : Int) V.l = V.l) := if_neg q
    have e1 : posI (b.at' : Int) V.l = -1 := by unfold posI; rw [if_neg q]
    rw [e1] at kp
    clear e1
    have HQ := Lib.hid q
    clear hb1 i1 h hbx hnF hF few q
    unfold Bk.agg
    go_enter Tryz.func113, Tryz.ntmps113
    go_wp2_with (go_at_call 134; refine kp.mono ?_; rintro e W4 ⟨rfl, hb2⟩)
    have i4 := HI.out.below hb2
    obtain ⟨F1, hF1⟩ : ∃ F1, F1 = F := ⟨_, rfl⟩
    rw [← hF1] at i4
    have C4 : Hid (Ch F (w.alloc (bkObj b)) W4) := Ch.of_below hb2
    have G4 : Hid (Gr F F1 (w.alloc (bkObj b)) W4) := by rw [hF1]; exact Gr.refl _ _ _
    obtain ⟨l1, hl1e⟩ : ∃ l1, l1 = V.l := ⟨_, rfl⟩
    have hl1 : l1.length ≤ 16 := by rw [hl1e]; exact HFEW.out
    have i4 : IsV W4 F1 x p { V with l := l1 } := by rw [hl1e]; exact i4
    have HE : Hid (outL (b.at' : Int) V.l = l1) := by unfold Hid; rw [HE.out, hl1e]
    clear hb2 hF1
    clear hl1e HI kp kx kx1 kx2 HQ
    have hbx4 := HB.out W4 C4.out
    obtain ⟨h0, v, hx, ho, hFv, few4⟩ := i4
    have hbx0 := hbx4
    obtain ⟨gg, cap5, w5, hr, hto, d5, f5⟩ := IsV.app b hx h0 ho hFv hl1
    have hx4 : W4.drew.heap[x]? = some (.cells (dvCells p v { V with l := l1 }) 117 (0, 0)) := hx
    have hxa : (W4.alloc (bkObj b)).drew.heap[x]? = some (.cells (dvCells p v { V with l := l1 }) 117 (0, 0)) := block_alloc hx _
    have ho : W4.ownsRow 0 149 3 v l1.length (rowL l1) := ho
    have hr : (Builtin.append_ #[115, 115] 115 #[v, .slice (some ⟨W4.heap.size, 0, none⟩) 1 1]).run Tryz.prog (W4.alloc (bkObj b)).drew = .ok (.slice (some ⟨gg, 0, none⟩) (l1.length + 1) cap5) w5 := hr
    have hto : ToW F1 W4 (w5.setCell ⟨x, 3, none⟩ (.slice (some ⟨gg, 0, none⟩) (l1.length + 1) cap5)) x p { V with l := l1 ++ [b] } (.slice (some ⟨gg, 0, none⟩) (l1.length + 1) cap5) := hto
    obtain ⟨q, c, rfl⟩ := own_sl ho
    have c3 := (IsV.cells (F := F) hx).2.2.2.1
    have c3d := (IsV.cells (F := F) hx4).2.2.2.1
    have c3a := (IsV.cells (F := F) hxa).2.2.2.1
    have c3b : (W4.alloc (bkObj b)).cell? ⟨x, 3, none⟩ = some (.slice q l1.length c) := c3a
    have hbd : W4.drew.heap[w.heap.size]? = some (bkObj b) := hbx4
    obtain ⟨k0, k1, k2⟩ := cell3 hbd
    obtain ⟨j0, j1, j2⟩ := cell3 hbx4
    obtain ⟨n, hn⟩ : ∃ n, n = l1.length := ⟨_, rfl⟩
    have hn16 : (n : Int) ≤ 16 := by omega
    simp only [← hn] at hr d5 c3 c3d c3a c3b hto
    have HR := Lib.hid hr
    have HT := Lib.hid hto
    have HN := Lib.hid hn
    clear hx ho hFv h0 few4 hx4 hxa hbd hbx4 hbx0 hr hto hl1 hn
    unfold bkObj at HR c3a c3b
    go_region_law ((refine step_append_run (by rfl) _ _ 115 (by rfl) _ _ _ w5 (by rfl) (by rfl) HR.out ?_))
    all_goals
      obtain ⟨W5, hW5⟩ : ∃ W5, W5 = w5.setCell ⟨x, 3, none⟩ (.slice (some ⟨gg, 0, none⟩) (n + 1) cap5) := ⟨_, rfl⟩
      rw [← hW5]
      rw [← hW5] at HT
      clear hto hr ho k0 k1 k2 j0 j1 j2 d5 c3 c3d c3a c3b HR hW5 f5
      obtain ⟨F2, i5, gr2, ch2⟩ := HT.out
      obtain ⟨h0, hx, ho, hFv, few5⟩ := i5
      have ho : W5.ownsRow 0 149 3 (.slice (some ⟨gg, 0, none⟩) (n + 1) cap5) (l1 ++ [b]).length (rowL (l1 ++ [b])) := ho
      have hx : W5.heap[x]? = some (.cells (dvCells p (.slice (some ⟨gg, 0, none⟩) (n + 1) cap5) V) 117 (0, 0)) := hx
      have hFv : ∀ j, (Value.slice (some ⟨gg, 0, none⟩) (n + 1) cap5).ownBlock = some j → F2 j := hFv
      have c3 : ∀ m, (W5.drewN m).cell? ⟨x, 3, none⟩ = some (.slice (some ⟨gg, 0, none⟩) (n + 1) cap5) := fun m => (IsV.cells (F := F) hx).2.2.2.1
      have c4 : ∀ m, (W5.drewN m).cell? ⟨x, 4, none⟩ = some (.int .i64 (V.most : Int)) := fun m => (IsV.cells (F := F) hx).2.2.2.2.1
      have c3' := c3 0
      have c4' := c4 0
      have el : (l1 ++ [b]).length = n + 1 := by rw [List.length_append, HN.out]; rfl
      have G5 : Hid (Gr F F2 (w.alloc (bkObj b)) W5) := G4.out.trans gr2 C4.out.size ch2.size
      have C5 : Hid (Ch F (w.alloc (bkObj b)) W5) := C4.out.trans G4.out ch2
      have CW : Hid (∀ W6 F3 l3, IsV W6 F3 x p { V with l := l3 } → Gr F2 F3 W5 W6 → Ch F2 W5 W6 → l3 = keepL V.most V.l b → ToV F w W6 x p { V with l := keepL V.most V.l b }) := fun W6 F3 l3 i6 g6 c6 e6 => by
        rw [← e6]
        exact ⟨F3, i6, (Gr.refl F _ _).trans (G5.out.trans g6 C5.out.size c6.size) HS.out (Nat.le_trans C5.out.size c6.size), HC1.out.trans (Gr.refl _ _ _) (C5.out.trans G5.out c6)⟩
      have i5 : IsV W5 F2 x p { V with l := l1 ++ [b] } := ⟨h0, _, hx, ho, hFv, few5⟩
      have HI5 := Lib.hid i5
      have HX5 := Lib.hid (And.intro h0 (And.intro hx (And.intro ho (And.intro hFv (And.intro few5 el)))))
      by_cases f : (V.most : Int) < (n : Int) + 1
      · have KD : Hid (∀ m, Calls Tryz.prog 136 #[.slice (some ⟨gg, 0, none⟩) (n + 1) cap5, .int .i64 0, .int .i64 1] (W5.drewN m) fun e w' => e = .returned (.slice (some ⟨gg, 0, none⟩) (n + 1 - 1) cap5) ∧ w'.ownsRow 0 149 3 (.slice (some ⟨gg, 0, none⟩) (n + 1 - 1) cap5) ((l1 ++ [b]).eraseIdx 0).length (rowL ((l1 ++ [b]).eraseIdx 0)) ∧ On gg (W5.drewN m) w') := fun m => by
          have kd := del_any gg cap5 0 (l1 ++ [b]) (W5.drewN m) (by rw [el]; omega) (by rw [el] at ho ⊢; exact ho)
          rw [el] at kd
          exact kd
        have HFI : Hid ((l1 ++ [b]).eraseIdx 0 = keepL V.most V.l b) := by unfold Hid keepL cutL; rw [HE.out, if_pos (by rw [el]; omega)]
        have HDL : Hid (∀ m w6, w6.ownsRow 0 149 3 (.slice (some ⟨gg, 0, none⟩) (n + 1 - 1) cap5) ((l1 ++ [b]).eraseIdx 0).length (rowL ((l1 ++ [b]).eraseIdx 0)) → On gg (W5.drewN m) w6 → w6.cell? ⟨x, 3, none⟩ = some (.slice (some ⟨gg, 0, none⟩) (n + 1) cap5) ∧ w6.frozen? ⟨x, 3, none⟩ = false ∧ ToV F w (w6.setCell ⟨x, 3, none⟩ (.slice (some ⟨gg, 0, none⟩) (n + 1 - 1) cap5)) x p { V with l := keepL V.most V.l b }) := fun m w6 own6 on6 => by
          have d := IsV.del (w := W5) (w3 := w6) (F := F2) (p := p) (g := gg) (cap := cap5) (V := { V with l := l1 ++ [b] }) (k := 0) hx h0 ho hFv few5 (by show _ = Value.slice _ (l1 ++ [b]).length _; rw [el]) (by show w6.ownsRow 0 149 3 (.slice (some ⟨gg, 0, none⟩) ((l1 ++ [b]).length - 1) cap5) _ _; rw [el]; exact own6) ⟨on6.os, on6.tape, on6.output, on6.size, on6.block⟩
          obtain ⟨⟨F3, i6, g6, c6⟩, d3, f3⟩ := d
          have el' : ({ V with l := l1 ++ [b] } : Dv).l.length = n + 1 := el
          rw [el'] at i6 c6 g6
          exact ⟨d3, f3, CW.out _ F3 _ i6.to g6 c6 HFI.out⟩
        clear h0 hx ho hFv few5 el i5 gr2 ch2
        go_wp2_with (fail)
        go_quiet (fail)
        go_wp2_with (go_at_call 136; refine (KD.out _).mono ?_; rintro e w6 ⟨rfl, own6, on6⟩; obtain ⟨d3, f3, hto⟩ := HDL.out _ w6 own6 on6; have HTO := Lib.hid hto; clear own6 on6 hto)
        go_end0
        exact ⟨rfl, HTO.out⟩
      · have HFI : Hid (l1 ++ [b] = keepL V.most V.l b) := by unfold Hid keepL cutL; rw [HE.out, if_neg (by rw [el]; omega)]
        have HTO : Hid (∀ m, ToV F w (W5.drewN m) x p { V with l := keepL V.most V.l b }) := fun m => CW.out (W5.drewN m) F2 _ (i5.of_heap fun _ _ _ => rfl) (Gr.refl _ _ _) ⟨rfl, rfl, rfl, Nat.le_refl _, fun _ _ _ => rfl⟩ HFI.out
        clear h0 hx ho hFv few5 el i5 gr2 ch2
        go_wp2_with (fail)
        go_quiet (fail)
        go_wp2
        go_end0
        exact ⟨rfl, HTO.out _⟩
end Go.Proofs.YtjippoejaieneaaGreat
