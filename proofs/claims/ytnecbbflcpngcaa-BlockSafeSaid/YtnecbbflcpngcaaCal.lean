/- What is read of a disk, what becomes of it when the power goes, and why calls are refused. No conditions. -/
import Derived.Test.YtnecbbflcpngcaaLef
namespace Go.Proofs.Ytnecbbflcpngcaa
open Go.RowKit Go.Maps
set_option maxRecDepth 20000
set_option linter.unusedVariables false

set_option maxHeartbeats 400000 in
theorem image_any (F : Nat → Prop) (p : Nat) (S : St) (w : World) (h : IsD w F p S) :
    Calls Try.prog 28 #[.pointer (some ⟨p, 0, none⟩)] w fun e w' => e = .returned (.string (ofL S.image)) ∧ Below w.heap.size w w' := by
  have k := left_full F p S w h
  have HL := Lib.hid (And.intro (S.left_len h.ok full (fun _ => Nat.le_refl _)) h.ok.len)
  clear h
  go_enter Try.func28, Try.ntmps28
  go_wp2_with (first
    | (go_at_call 62; refine k.mono ?_; rintro e w' ⟨g, cap', rfl, _, hr, hb⟩; have hcv := hr.string (w' := w') 0 S.safe.length cap' (by rw [HL.out.1, HL.out.2]; omega)))
  go_ret
  rw [List.take_of_length_le (by rw [HL.out.1, HL.out.2]; omega)]
  exact ⟨rfl, hb⟩
theorem wpList_clear_run {ops : Array Oper} {rest : List Oper} {o : Oper} {a : Act} {w : World} {Q : Exit → Act → World → Prop} (hgd : o.guard = none) (s : Operand) (t : TypeId)
    (ho : o.op = .call { callee := .builtin .clear, args := #[s], argTypes := #[t] }) (vs v' : Value) (w' : World) (hs : a.eval s = vs)
    (hr : (Builtin.clear_ #[t] o.type #[vs]).run Try.prog w = .ok v' w') (hk : wpList Try.prog ops Q rest (a.put o.dst v') w') : wpList Try.prog ops Q (o :: rest) a w := by
  refine wpList_plain hgd fun K hK => ?_
  unfold Oper.wp execOp
  simp only [ho, resolve, invoke, builtin, Sem.run_bind, Sem.run_pure, Result.andThen_ok, List.map_toArray, List.map_cons, List.map_nil, hs, hr]
  exact hK _ _ hk
theorem CV.lt {w : World} {G : Nat → Prop} {cv : Value} {ch : List Int} (h : CV w G cv ch) : CV w (fun b => G b ∧ b < w.heap.size) cv ch := by
  obtain ⟨q, cap, h1, h2, h3⟩ := h
  refine ⟨q, cap, h1, h2, fun hne => ?_⟩
  obtain ⟨b, o, hq, hG, hlt, hc⟩ := h3 hne
  exact ⟨b, o, hq, ⟨hG, hlt⟩, hlt, hc⟩
/-- a disk at p in blocks of F and new ones; only blocks of F have turned -/
def To (F : Nat → Prop) (w w' : World) (p : Nat) (S : St) : Prop := ∃ F', IsD w' F' p S ∧ Gr F F' w w' ∧ Ch F w w'
theorem To.trans {F F1 : Nat → Prop} {w w1 w2 : World} {p : Nat} {S : St} (g : Gr F F1 w w1) (c : Ch F w w1) (h : To F1 w1 w2 p S) : To F w w2 p S := by
  obtain ⟨F2, d, g2, c2⟩ := h
  exact ⟨F2, d, g.trans g2 c.size c2.size, c.trans g c2⟩
theorem To.of_below {F : Nat → Prop} {w w' : World} {p : Nat} {S : St} (h : IsD w F p S) (hb : Below w.heap.size w w') : To F w w' p S := ⟨F, h.below hb, Gr.refl _ _ _, Ch.of_below hb⟩
theorem To.refl {F : Nat → Prop} {w : World} {p : Nat} {S : St} (h : IsD w F p S) : To F w w p S := ⟨F, h, Gr.refl _ _ _, Ch.refl _ _⟩
theorem To.then_below {F : Nat → Prop} {w w1 w2 : World} {p : Nat} {S : St} (h : To F w w1 p S) (hb : Below w1.heap.size w1 w2) : To F w w2 p S := by
  obtain ⟨F1, d, g, c⟩ := h
  exact To.trans g c (To.of_below d hb)
theorem To.after_below {F : Nat → Prop} {w w1 w2 : World} {p : Nat} {S : St} (hb : Below w.heap.size w w1) (h : To F w1 w2 p S) : To F w w2 p S := To.trans (Gr.refl _ _ _) (Ch.of_below hb) h
theorem St.lose_eq (S : St) (ch : List Int) : S.lose ch = ⟨S.left (part ch), fun _ => none, true, 0, []⟩ := rfl
set_option maxHeartbeats 1000000 in
theorem lose_any (F : Nat → Prop) (p : Nat) (S : St) (w : World) (h : IsD w F p S) (G : Nat → Prop) (v : Value) (ch : List Int) (hcv : CV w G v ch) :
    Calls Try.prog 70 #[.pointer (some ⟨p, 0, none⟩), v] w fun e w' => e = .returned (.tuple #[]) ∧ To F w w' p (S.lose ch) := by
  obtain ⟨q, n, cap, hv⟩ : ∃ q n cap, v = .slice q n cap := by obtain ⟨q, cap, e, _⟩ := hcv; exact ⟨_, _, _, e⟩
  have kc := chosen_any v q n cap hv w
  have hB1 : Below w.heap.size w (w.alloc (.cells #[v] 52)) := (Below.refl _ w).alloc (Nat.le_refl _) _
  have k := left_part F p S (w.alloc (.cells #[v] 52)) (h.below hB1) G v ch w.heap.size (by rw [cell_of_row _ _ _ _ _ _ (block_new w _)]; rfl) (hcv.below hB1)
  have hll : (S.left (part ch)).length = S.safe.length := by rw [S.left_len h.ok (part ch) (part_le ch), h.ok.len]
  obtain ⟨sb, cap0, mb, cv, hd, hc, h1, h2, h3⟩ := h
  have HD := Lib.hid hd
  have HC := Lib.hid hc
  have HB := Lib.hid hB1
  have HL := Lib.hid hll
  clear hcv hB1 hd hc hll
  subst hv
  generalize w.alloc (.cells #[.slice q n cap] 52) = w0 at *
  go_enter Try.func70, Try.ntmps70
  go_wp2_with (go_at_call 96; refine kc.mono ?_; rintro e w' ⟨rfl, rfl⟩)
  refine k.mono ?_
  rintro e w1 ⟨g, cap', rfl, hgs, hr, hb⟩
  have hb2 : Below w.heap.size w w1 := HB.out.trans (hb.mono HB.out.size)
  have d1 := HD.out.below hb2
  obtain ⟨c0, c1, c2, c3, c4, hf⟩ := d1.cells
  have f0 := hf 0
  have hgs2 : w.heap.size ≤ g := Nat.le_trans HB.out.size hgs
  have d2 := d1.set0 hr HL.out (by have := block_lt HD.out.blk; omega)
  rw [HL.out] at d2
  obtain ⟨c0', c1', c2', c3', c4', hf'⟩ := d2.cells
  obtain ⟨w3, hrun, hm3, hg3, hs3⟩ := d2.map.clear
  have hpm : some p ≠ some mb := fun e => d2.nm.1 (Option.some.inj e)
  have hgm : some g ≠ some mb := fun e => d2.nm.2 (Option.some.inj e)
  have hp3 := (hg3.block p (block_lt d2.blk) hpm).trans d2.blk
  have hr3 := d2.row.of_heap (hg3.block g d2.row.lt hgm)
  have d3 : D w3 p g cap' mb cv { S with safe := S.left (part ch), wr := fun _ => none } :=
    ⟨hp3, hr3, hm3, ⟨d2.ok.len, d2.ok.lo, d2.ok.hi, (fun i s hs => nomatch hs), d2.ok.armed, d2.ok.ch, d2.ok.chl⟩, d2.ne⟩
  obtain ⟨c0'', c1'', c2'', c3'', c4'', hf''⟩ := d3.cells
  have f2 := hf'' 2
  have d4 := d3.set2 true
  have hgl := hr.lt
  have hc1 := HC.out.lt.below hb2
  have i4 : IsD (w3.setCell ⟨p, 2, none⟩ (.bool true)) (fun b => F b ∨ b = g) p { S with safe := S.left (part ch), wr := fun _ => none, dead := true } := by
    refine ⟨g, cap', mb, cv, d4, ?_, .inl h1, .inr rfl, .inl h3⟩
    refine CV.mono (((hc1.setCell (a := ⟨p, 0, none⟩) (fun k hk => hk.1.2.1) _).of_heap (w' := w3) hg3.size ?_).setCell (a := ⟨p, 2, none⟩) (fun k hk => hk.1.2.1) _) ?_
    · intro k hk hG
      exact hg3.block k hk (fun e => hG.1.2.2.2 (Option.some.inj e))
    · intro k hk
      exact ⟨.inl hk.1.1, hk.1.2.1, by have := hk.2; omega, hk.1.2.2.2⟩
  have kd := disarm_any _ p _ _ i4
  have hch : Ch F w (w3.setCell ⟨p, 2, none⟩ (.bool true)) := (((Ch.of_below hb2).setCell h1 0 _).grown hg3 (fun j hj => by cases hj; exact .inl h3)).setCell h1 2 _
  have hgr : Gr F (fun b => F b ∨ b = g) w (w3.setCell ⟨p, 2, none⟩ (.bool true)) := fun k hk => by
    rcases hk with hk | rfl
    · exact .inl hk
    · right; rw [setCell_size, hs3, setCell_size]; exact ⟨hgs2, hgl⟩
  have HX := Lib.hid (And.intro hch hgr)
  clear hb2 d1 hf hgs hgs2 d2 hf' hm3 hg3 hs3 hpm hgm hp3 hr3 d3 hf'' d4 hc1 i4 hr hb hgl hch hgr k kc c1 c2 c3 c4 c0' c2' c3' c4' c0'' c3'' c4'' c1''
  go_wp2_with (first
    | (at_builtin; refine wpList_clear_run rfl _ 89 rfl _ _ _ rfl (hrun _) ?_)
    | (go_at_call 71; refine kd.mono ?_; rintro e w' ⟨rfl, g1, g2, g3⟩))
  go_end0
  exact ⟨rfl, _, g1, fun k hk => by rcases HX.out.2 k hk with q | q; exact .inl q; exact .inr (by rw [g3]; exact q), HX.out.1.trans HX.out.2 g2⟩
end Go.Proofs.Ytnecbbflcpngcaa
