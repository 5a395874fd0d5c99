/- A transaction's record, written and counted by a copy. Conditions: ints are within 64 bits. -/
import Derived.Test.YtjippoejaieneaaGreatJcm
namespace Go.Proofs.YtjippoejaieneaaGreat
open Go.RowKit Go.Maps
set_option maxRecDepth 20000
set_option linter.unusedVariables false

theorem cm_no {J : Jn} {V : Dv} {l : List Wt} (h : ¬ cmGo J V l) : cmS J V l = [] ∧ cmJ J V l = J := by
  classical
  unfold cmS cmJ; rw [if_neg h, if_neg h]; exact ⟨rfl, rfl⟩
theorem cm_yes {J : Jn} {V : Dv} {l : List Wt} (h : cmGo J V l) : cmS J V l = cmP J V l ++ recS (cmK J l).en (cmK J l).next l l.length ∧ cmJ J V l = takeJ (cmK J l) l := by
  classical
  unfold cmS cmJ; rw [if_pos h, if_pos h]; exact ⟨rfl, rfl⟩
theorem cmE_go {J : Jn} {V : Dv} {l : List Wt} (h : cmGo J V l) : cmE J V l = 0 := by
  unfold cmE
  rw [if_neg (fun z => h.1 (List.length_eq_zero_iff.1 z)), if_neg (by rw [h.2.1]; simp), if_neg h.2.2]
structure Cx (w w2 w4 : World) (F G : Nat → Prop) (a j x p mb : Nat) (S : St) (V : Dv) (J : Jn) (v : Value) (l : List Wt) : Prop where
  hb2 : Below w.heap.size w w2
  hb24 : Below w2.heap.size w2 w4
  i4 : IsJ w4 F a x p mb S V J
  aw : w2.heap.size ≤ a
  jl : j < w.heap.size
  jb : w4.heap[j]? = some (.cells (jcells x J (.map (some mb))) 101 (0, 0))
  jn : ¬ JF F a mb j
  v4 : WV w4 G v l
  g4 : ∀ k, G k → ¬ JF F a mb k
  b0 : w4.heap[w.heap.size]? = some (.cells #[.pointer (some ⟨j, 0, none⟩)] 41 (0, 0))
  b1 : w4.heap[w.heap.size + 1]? = some (.cells #[.int .i64 0] 29 (0, 0))
  n0 : ¬ JF F a mb w.heap.size
  n1 : ¬ JF F a mb (w.heap.size + 1)
  nb : ¬ JF F j mb (w.heap.size + 1)
  s2 : w2.heap.size = w.heap.size + 2
  gw : ∀ k, G k → k < w4.heap.size
/-- what the door finds when the power went -/
def Door (w w6 : World) (F : Nat → Prop) (j x p mb : Nat) (S : St) (V : Dv) (J : Jn) (l : List Wt) : Prop :=
  w6.cell? ⟨w.heap.size, 0, none⟩ = some (.pointer (some ⟨j, 0, none⟩)) ∧ w6.cell? ⟨w.heap.size + 1, 0, none⟩ = some (.int .i64 0) ∧ w6.frozen? ⟨w.heap.size + 1, 0, none⟩ = false ∧ w6.heap[j]? = some (.cells (jcells x J (.map (some mb))) 101 (0, 0)) ∧
  Face (cmS J V l) (cmE J V l) (cmJ J V l) F w j x p mb S V J (.returned (.int .i64 2)) ((deadW w6 j).setCell ⟨w.heap.size + 1, 0, none⟩ (.int .i64 2)) ∧ ((deadW w6 j).setCell ⟨w.heap.size + 1, 0, none⟩ (.int .i64 2)).cell? ⟨w.heap.size + 1, 0, none⟩ = some (.int .i64 2)
theorem cm_door {w w2 w4 w5 w6 : World} {F F1 G : Nat → Prop} {a j x p mb mb1 : Nat} {S : St} {V : Dv} {J J1 : Jn} {v : Value} {l : List Wt} {mv : Value} (C : Cx w w2 w4 F G a j x p mb S V J v l)
    (g : Gr (JF F a mb) (JF F1 a mb1) w4 w5) (c : Ch (JF F a mb) w4 w5) (hF1 : ¬ F1 a) (q : gone (cmS J V l) S V = true) (t : TX F1 w5 w6 a x p mv (runS (cmS J V l) S V).1 (runS (cmS J V l) S V).2 J1) : Door w w6 F j x p mb S V J l := by
  have hjs : j < w2.heap.size := Nat.lt_of_lt_of_le C.jl C.hb2.size
  obtain ⟨td, hj6⟩ := toD_copy C.hb24 C.aw hjs C.i4 C.jb C.jn g c t hF1
  obtain ⟨F', hx, g2, c2⟩ := t
  have hk : ∀ b (o : Obj), w4.heap[b]? = some o → ¬ JF F a mb b → w6.heap[b]? = some o := fun b o hb hn => by
    have e5 := (c.block b (block_lt hb) hn).trans hb
    exact (c2.block b (block_lt e5) (fun z => (g b (.inl z)).elim hn (fun y => by have := block_lt hb; omega))).trans e5
  have e0 := hk _ _ C.b0 C.n0
  have e1 := hk _ _ C.b1 C.n1
  refine ⟨cell0 e0, cell0 e1, block_free e1, hj6, .inl ⟨q, rfl, td.box C.hb2 (Nat.le_succ _) (by have := C.s2; omega) C.nb _⟩, ?_⟩
  have e2 : (deadW w6 j).heap[w.heap.size + 1]? = some (.cells #[.int .i64 0] 29 (0, 0)) := by
    have := C.jl
    unfold deadW
    rw [block_setCell_other (by show w.heap.size + 1 ≠ j; omega), block_setCell_other (by show w.heap.size + 1 ≠ j; omega)]; exact e1
  exact cell0 (block_setCell e2)
/-- the record is written -/
theorem cm_rec {w w2 w4 w5 : World} {F F1 G : Nat → Prop} {a j x p mb mb1 : Nat} {S : St} {V : Dv} {J : Jn} {v : Value} {l : List Wt} (C : Cx w w2 w4 F G a j x p mb S V J v l) (hg : cmGo J V l)
    (i5 : IsJ w5 F1 a x p mb1 (runS (cmP J V l) S V).1 (runS (cmP J V l) S V).2 (cmK J l)) (g : Gr (JF F a mb) (JF F1 a mb1) w4 w5) (c : Ch (JF F a mb) w4 w5) (hp : gone (cmP J V l) S V = false) :
    Calls Tryz.prog 60 #[.pointer (some ⟨a, 0, none⟩), v] w5 fun e w6 =>
      (gone (cmS J V l) S V = true ∧ e = .panicked [{ v := .iface 156 (.agg #[]), recovered := false }] ∧ Door w w6 F j x p mb S V J l) ∨
      (gone (cmS J V l) S V = false ∧ e = .returned (.tuple #[]) ∧ ∃ F2, IsJ w6 F2 a x p mb1 (runS (cmS J V l) S V).1 (runS (cmS J V l) S V).2 (cmK J l) ∧ Gr (JF F a mb) (JF F2 a mb1) w4 w6 ∧ Ch (JF F a mb) w4 w6 ∧ w6.cell? ⟨w.heap.size, 0, none⟩ = some (.pointer (some ⟨j, 0, none⟩))) := by
  obtain ⟨f1, f2, f3⟩ := len_fits C.i4.ok hg
  obtain ⟨r1, r2, r3, r4⟩ := refJ_zero hg.2.1
  have hm := mem_ok r2 r3
  have hok := i5.ok
  have hv5 : WV w5 G v l := C.v4.keep c C.g4
  have hG5 : ∀ k, G k → ¬ JF F1 a mb1 k := hG_of C.gw g C.g4
  have ha := hok.a1
  have hc4 := i5.c4
  have KW := writeRec_any F1 G a x p (.map (some mb1)) _ _ (cmK J l) v l w5 i5.jx hv5 (fun k hk z => hG5 k hk (.inl z)) (by omega) (fun y hy => by have := (hm y hy).2.2; omega) (by have := hok.e0; omega) (by have := hok.e1; omega)
  have eS := (cm_yes hg).1
  have eg : gone (cmS J V l) S V = gone (recS (cmK J l).en (cmK J l).next l l.length) (runS (cmP J V l) S V).1 (runS (cmP J V l) S V).2 := by rw [eS, gone_app, hp]; rfl
  have er : runS (cmS J V l) S V = runS (recS (cmK J l).en (cmK J l).next l l.length) (runS (cmP J V l) S V).1 (runS (cmP J V l) S V).2 := by rw [eS, run_app, hp]; rfl
  refine KW.mono fun e w6 hd => ?_
  by_cases q : gone (cmS J V l) S V = true
  · obtain ⟨e1, t⟩ := hd.no (by rw [← eg]; exact q)
    rw [← er] at t
    exact .inl ⟨q, e1, cm_door C g c i5.jx.nj q t⟩
  · have q2 : gone (cmS J V l) S V = false := by simpa using q
    obtain ⟨e1, t⟩ := hd.yes (by rw [← eg]; exact q2)
    rw [← er] at t
    have hcn : (runS (cmS J V l) S V).2.cnt = (runS (cmP J V l) S V).2.cnt := by rw [run_cnt C.i4.jx.sok C.i4.jx.good, run_cnt C.i4.jx.sok C.i4.jx.good]
    have tt := t
    obtain ⟨F2, hx2, g2, c2⟩ := tt
    obtain ⟨F3, m3, i3, g3, c3⟩ := i5.tx t hcn
    have hi : IsJ w6 F2 a x p mb1 (runS (cmS J V l) S V).1 (runS (cmS J V l) S V).2 (cmK J l) := by
      refine ⟨hx2, ?_, nF1 g2 i5.mF i5.map.lt, i5.jm, hok.cnt hcn, i5.live⟩
      rw [hcn]; exact i5.map.of_heap (c2.block mb1 i5.map.lt i5.mF)
    have gj : Gr (JF F1 a mb1) (JF F2 a mb1) w5 w6 := fun k hk => by
      rcases hk with z | z | z
      · exact (g2 k z).imp .inl id
      · exact .inl (.inr (.inl z))
      · exact .inl (.inr (.inr z))
    have cj : Ch (JF F1 a mb1) w5 w6 := ⟨c2.os, c2.tape, c2.output, c2.size, fun k hk hn => c2.block k hk (fun z => hn (.inl z))⟩
    have gg := g.trans gj c.size c2.size
    have cc := c.trans g cj
    exact .inr ⟨q2, e1, F2, hi, gg, cc, cell0 ((cc.block _ (block_lt C.b0) C.n0).trans C.b0)⟩
/-- the record is counted, and the copy's state is laid back -/
theorem cm_take {w w2 w4 w6 : World} {F F2 G : Nat → Prop} {a j x p mb mb1 : Nat} {S : St} {V : Dv} {J : Jn} {v : Value} {l : List Wt} (C : Cx w w2 w4 F G a j x p mb S V J v l) (hg : cmGo J V l) (q : gone (cmS J V l) S V = false)
    (i6 : IsJ w6 F2 a x p mb1 (runS (cmS J V l) S V).1 (runS (cmS J V l) S V).2 (cmK J l)) (g : Gr (JF F a mb) (JF F2 a mb1) w4 w6) (c : Ch (JF F a mb) w4 w6) :
    Calls Tryz.prog 61 #[.pointer (some ⟨a, 0, none⟩), v] w6 fun e w7 => e = .returned (.tuple #[]) ∧ w7.cell? ⟨w.heap.size, 0, none⟩ = some (.pointer (some ⟨j, 0, none⟩)) ∧ w7.heap[a]? = some (.cells (jcells x (takeJ (cmK J l) l) (.map (some mb1))) 101 (0, 0)) ∧ w7.heap[j]? = some (.cells (jcells x J (.map (some mb))) 101 (0, 0)) ∧
      (cp7 w7 j x (takeJ (cmK J l) l) (.map (some mb1))).cell? ⟨w.heap.size + 1, 0, none⟩ = some (.int .i64 0) ∧ (cp7 w7 j x (takeJ (cmK J l) l) (.map (some mb1))).frozen? ⟨w.heap.size + 1, 0, none⟩ = false ∧
      Face (cmS J V l) (cmE J V l) (cmJ J V l) F w j x p mb S V J (.returned (.int .i64 0)) ((cp7 w7 j x (takeJ (cmK J l) l) (.map (some mb1))).setCell ⟨w.heap.size + 1, 0, none⟩ (.int .i64 0)) ∧
      ((cp7 w7 j x (takeJ (cmK J l) l) (.map (some mb1))).setCell ⟨w.heap.size + 1, 0, none⟩ (.int .i64 0)).cell? ⟨w.heap.size + 1, 0, none⟩ = some (.int .i64 0) := by
  obtain ⟨f1, f2, f3⟩ := len_fits C.i4.ok hg
  obtain ⟨r1, r2, r3, r4⟩ := refJ_zero hg.2.1
  have hm := mem_ok r2 r3
  have hok := i6.ok
  have hv6 : WV w6 G v l := C.v4.keep c C.g4
  have hG6 : ∀ k, G k → ¬ JF F2 a mb1 k := hG_of C.gw g C.g4
  have hc4 := i6.c4
  have ha := hok.a1
  have hcnt : (runS (cmS J V l) S V).2.cnt = V.cnt := run_cnt C.i4.jx.sok C.i4.jx.good
  have har := cmK_area J l
  have KT := take_any F2 G a x p mb1 _ _ _ (cmK J l) v l w6 i6.jx i6.map (by omega) i6.mF i6.jm hv6 (fun k hk => ⟨fun e => hG6 k hk (.inr (.inl e)), fun e => hG6 k hk (.inr (.inr e))⟩) (by omega) (fun y hy => by rw [hcnt, har]; exact hm y hy) (by have := hok.n0; omega) hok.n1 (by have := hok.e0; omega) (by have := hok.e1; omega)
  refine KT.mono fun e w7 hd => ?_
  obtain ⟨rfl, hx7, hm7, c7⟩ := hd
  have hok2 := (takeJ_ok C.i4.ok hg).cnt hcnt
  obtain ⟨F7, m7, i7, g7, c7'⟩ := take_to i6 hok2 hx7 hm7 c7
  have tt : IsJ w7 F2 a x p mb1 (runS (cmS J V l) S V).1 (runS (cmS J V l) S V).2 (takeJ (cmK J l) l) := ⟨hx7, hm7, i6.mF, i6.jm, hok2, i6.live⟩
  have cj : Ch (JF F2 a mb1) w6 w7 := ⟨c7.os, c7.tape, c7.output, c7.size, fun k hk hn => c7.block k hk (fun z => hn (z.elim (fun e => .inr (.inl e)) (fun e => .inr (.inr e))))⟩
  have gg := g.trans (Gr.refl (JF F2 a mb1) w6 w7) c.size c7.size
  have cc := c.trans g cj
  have hjs : j < w2.heap.size := Nat.lt_of_lt_of_le C.jl C.hb2.size
  have tj := toJ_copy C.hb24 C.aw hjs C.i4 C.jb C.jn tt gg cc
  have e0 := (cc.block _ (block_lt C.b0) C.n0).trans C.b0
  have e1 := (cc.block _ (block_lt C.b1) C.n1).trans C.b1
  have ej := (cc.block _ (block_lt C.jb) C.jn).trans C.jb
  have hjl := C.jl
  have e1' : (cp7 w7 j x (takeJ (cmK J l) l) (.map (some mb1))).heap[w.heap.size + 1]? = some (.cells #[.int .i64 0] 29 (0, 0)) := ((cp7_ch w7 j x _ _).block _ (block_lt e1) (by show ¬ _ = _; omega)).trans e1
  refine ⟨rfl, cell0 e0, hx7.blk, ej, cell0 e1', block_free e1', ?_, cell0 (block_setCell e1')⟩
  refine .inr ⟨q, by rw [cmE_go hg], ?_⟩
  rw [(cm_yes hg).2]
  exact tj.box C.hb2 (Nat.le_succ _) (by have := C.s2; omega) C.nb _
end Go.Proofs.YtjippoejaieneaaGreat
