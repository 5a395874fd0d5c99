/- What a transaction is; a copy of a journal's own state and back. Conditions: ints are within 64 bits. -/
import Derived.Test.YtjippoejaieneaaGreatJck
namespace Go.Proofs.YtjippoejaieneaaGreat
open Go.RowKit Go.Maps
set_option maxRecDepth 20000
set_option linter.unusedVariables false

def mxs : Int := 4611686018427387904
def over (J : Jn) (l : List Wt) : Prop := mostN J.area J.en < (l.length : Int)
instance (J : Jn) (l : List Wt) : Decidable (over J l) := by unfold over; infer_instance
def cmGo (J : Jn) (V : Dv) (l : List Wt) : Prop := l ≠ [] ∧ refJ J V l = 0 ∧ ¬ (over J l ∧ J.head = 4611686018427387904)
def cmK (J : Jn) (l : List Wt) : Jn := if over J l then ckJ J else J
def cmP (J : Jn) (V : Dv) (l : List Wt) : List Stp := if over J l then ckS J V else []
open Classical in
noncomputable def cmS (J : Jn) (V : Dv) (l : List Wt) : List Stp := if cmGo J V l then cmP J V l ++ recS (cmK J l).en (cmK J l).next l l.length else []
open Classical in
noncomputable def cmJ (J : Jn) (V : Dv) (l : List Wt) : Jn := if cmGo J V l then takeJ (cmK J l) l else J
def cmE (J : Jn) (V : Dv) (l : List Wt) : Int := if l.length = 0 then 0 else if refJ J V l ≠ 0 then refJ J V l else if over J l ∧ J.head = 4611686018427387904 then 160 else 0
theorem refJ_zero {J : Jn} {V : Dv} {l : List Wt} (h : refJ J V l = 0) : (l.length : Int) ≤ mostN J.area 2 ∧ l.any longB = false ∧ okL J V l = true ∧ J.next ≠ 4611686018427387904 := by
  unfold refJ at h
  split at h
  · cases h
  · rename_i q
    split at h
    · cases h
    · rename_i q2
      split at h
      · cases h
      · rename_i q3
        refine ⟨?_, ?_, ?_, q3⟩
        · have : ¬ mostN J.area 2 < (l.length : Int) := fun z => q (.inl z)
          omega
        · cases z : l.any longB with
          | false => rfl
          | true => exact absurd (.inr z) q
        · cases z : okL J V l with
          | true => rfl
          | false => exact absurd z q2
theorem mem_ok {J : Jn} {V : Dv} {l : List Wt} (h1 : l.any longB = false) (h2 : okL J V l = true) : ∀ y ∈ l, 0 ≤ y.c ∧ y.c < ((V.cnt - J.area : Nat) : Int) ∧ y.d.size ≤ 116 := by
  intro y hy
  obtain ⟨i, hi, rfl⟩ := List.getElem_of_mem hy
  have a := List.all_eq_true.1 h2 i (List.mem_range.2 hi)
  unfold okAt at a
  rw [List.getElem?_eq_getElem hi] at a
  simp only [Bool.and_eq_true] at a
  have b := a.1
  unfold isC at b
  simp only [Bool.and_eq_true, decide_eq_true_eq] at b
  refine ⟨b.1, b.2, ?_⟩
  have c : longB l[i] = false := by
    cases z : longB l[i] with
    | false => rfl
    | true => rw [List.any_eq_true.2 ⟨_, hy, z⟩] at h1; cases h1
  unfold longB at c
  simpa using c
theorem cmK_ok {J : Jn} {V : Dv} {l : List Wt} (h : J.ok V) : (cmK J l).ok V := by
  unfold cmK; split
  · exact ckJ_ok h
  · exact h
theorem cmK_area (J : Jn) (l : List Wt) : (cmK J l).area = J.area := by
  unfold cmK ckJ
  split
  · split <;> rfl
  · rfl
theorem cmK_next (J : Jn) (l : List Wt) : (cmK J l).next = J.next := by
  unfold cmK ckJ
  split
  · split <;> rfl
  · rfl
theorem len_fits {J : Jn} {V : Dv} {l : List Wt} (h : J.ok V) (g : cmGo J V l) : (cmK J l).en + (1 + (l.length : Int)) ≤ (J.area : Int) ∧ 1 ≤ l.length ∧ l.length ≤ 40 := by
  obtain ⟨g1, g2, g3⟩ := g
  obtain ⟨r1, _⟩ := refJ_zero g2
  have h1 : 1 ≤ l.length := by cases l with | nil => exact absurd rfl g1 | cons a r => simp
  have e0 := h.e0; have e1 := h.e1
  unfold mostN at r1
  refine ⟨?_, h1, by omega⟩
  unfold cmK
  by_cases q : over J l
  · rw [if_pos q]
    have hn : ¬ ckNo J := fun z => by
      rcases z with z | z
      · exact g3 ⟨q, z⟩
      · unfold over mostN at q
        omega
    unfold ckJ
    rw [if_neg hn]
    show (2 : Int) + _ ≤ _
    omega
  · rw [if_neg q]
    unfold over mostN at q
    omega
theorem takeJ_ok {J : Jn} {V : Dv} {l : List Wt} (h : J.ok V) (g : cmGo J V l) : (takeJ (cmK J l) l).ok V := by
  obtain ⟨f1, f2, f3⟩ := len_fits h g
  obtain ⟨r1, r2, r3, r4⟩ := refJ_zero g.2.1
  have k := cmK_ok (l := l) h
  have hn := cmK_next J l
  have ha := cmK_area J l
  have k1 := k.n0; have k2 := k.n1; have k3 := k.e0
  refine ⟨k.a0, k.a1, k.h0, k.h1, by show 1 ≤ (cmK J l).next + 1; omega, by show (cmK J l).next + 1 ≤ _; omega, by show 2 ≤ (cmK J l).en + _; omega, by show (cmK J l).en + (1 + (l.length : Int)) ≤ ((cmK J l).area : Int); rw [ha]; exact f1, ?_⟩
  have hm := mem_ok r2 r3
  show ∀ i d, putM (cmK J l).last l i = some d → d.length = 116
  unfold putM
  have : ∀ (l' : List Wt) (M : Nat → Option Bts), (∀ y ∈ l', y.d.size ≤ 116) → (∀ i d, M i = some d → d.length = 116) → ∀ i d, l'.foldl putM1 M i = some d → d.length = 116 := by
    intro l'
    induction l' with
    | nil => intro M _ hM; exact hM
    | cons a r ih =>
      intro M hl hM
      refine ih (putM1 M a) (fun y hy => hl y (List.mem_cons_of_mem _ hy)) (fun i d hd => ?_)
      unfold putM1 at hd
      split at hd
      · have e : padB a.d.data.toList = d := by simpa using hd
        rw [← e]; exact padB_len (by rw [baList]; exact hl a List.mem_cons_self)
      · exact hM i d hd
  exact this l _ (fun y hy => (hm y hy).2.2) k.last
/-- the journal dies while its copy is at work -/
theorem toD_copy {w w4 w5 w6 : World} {F F1 : Nat → Prop} {a j x p mb mb1 : Nat} {S S' : St} {V V' : Dv} {J J1 : Jn} {mv : Value} (hb : Below w.heap.size w w4) (ha : w.heap.size ≤ a) (hjw : j < w.heap.size) (h4 : IsJ w4 F a x p mb S V J) (hj : w4.heap[j]? = some (.cells (jcells x J (.map (some mb))) 101 (0, 0))) (hjn : ¬ JF F a mb j)
    (g : Gr (JF F a mb) (JF F1 a mb1) w4 w5) (c : Ch (JF F a mb) w4 w5) (t : TX F1 w5 w6 a x p mv S' V' J1) (hF1 : ¬ F1 a) : ToD F w (deadW w6 j) j x p mb S' V' J ∧ w6.heap[j]? = some (.cells (jcells x J (.map (some mb))) 101 (0, 0)) := by
  obtain ⟨F', hx, g2, c2⟩ := t
  have j4 := block_lt hj
  have hj5 := (c.block j j4 hjn).trans hj
  have nj1 : ¬ F1 j := fun z => (g j (.inl z)).elim hjn (fun q => by omega)
  have hj6 := (c2.block j (block_lt hj5) nj1).trans hj5
  have nj' : ¬ F' j := fun z => (g2 j z).elim nj1 (fun q => by have := block_lt hj5; omega)
  refine ⟨?_, hj6⟩
  have hjx : JX w6 F' j x p (.map (some mb)) S' V' J := ⟨hj6, hx.ext, nj', hx.sok, hx.good, hx.bd⟩
  obtain ⟨F3, hx3, g3, c3⟩ := dead_tx (w := w6) (F := F') (mb := mb) ⟨F', hjx, Gr.refl _ _ _, Ch.of_below (Below.refl _ w6)⟩
  have hs : w4.heap.size ≤ w6.heap.size := Nat.le_trans c.size c2.size
  refine ⟨F3, hx3, fun k hk => ?_, ?_⟩
  · rcases g3 k hk with z | z
    · rcases z with z | z | z
      · rcases g2 k z with y | y
        · rcases g k (.inl y) with u | u
          · rcases u with u | u | u
            · exact .inl (.inl u)
            · exact absurd (u ▸ y) hF1
            · exact .inl (.inr (.inr u))
          · exact .inr ⟨Nat.le_trans hb.size u.1, Nat.lt_of_lt_of_le u.2 (Nat.le_trans c2.size c3.size)⟩
        · exact .inr ⟨Nat.le_trans (Nat.le_trans hb.size c.size) y.1, Nat.lt_of_lt_of_le y.2 c3.size⟩
      · exact .inl (.inr (.inl z))
      · exact .inl (.inr (.inr z))
    · exact .inr ⟨Nat.le_trans (Nat.le_trans hb.size hs) z.1, z.2⟩
  · refine ⟨((c3.os.trans c2.os).trans c.os).trans hb.os, ((c3.tape.trans c2.tape).trans c.tape).trans hb.tape, ((c3.output.trans c2.output).trans c.output).trans hb.output, Nat.le_trans (Nat.le_trans hb.size hs) c3.size, fun k hk hn => ?_⟩
    have k4 : k < w4.heap.size := Nat.lt_of_lt_of_le hk hb.size
    have n1 : ¬ JF F a mb k := fun z => by
      rcases z with z | z | z
      · exact hn (.inl z)
      · omega
      · exact hn (.inr (.inr z))
    have n2 : ¬ F1 k := fun z => (g k (.inl z)).elim n1 (fun q => by omega)
    have n3 : ¬ JF F' j mb k := fun z => by
      rcases z with z | z | z
      · exact (g2 k z).elim n2 (fun q => by have := c.size; omega)
      · exact hn (.inr (.inl z))
      · exact hn (.inr (.inr z))
    exact (c3.block k (Nat.lt_of_lt_of_le k4 hs) n3).trans ((c2.block k (Nat.lt_of_lt_of_le k4 c.size) n2).trans ((c.block k k4 n1).trans (hb.block k hk)))
/-- the copy's state is laid back into the journal's own block -/
def cp7 (w : World) (j x : Nat) (J : Jn) (mv : Value) : World := w.setRow j (jcells x J mv)
theorem cp7_ch (w : World) (j x : Nat) (J : Jn) (mv : Value) : Ch (fun k => k = j) w (cp7 w j x J mv) := (Ch.refl (fun k => k = j) w).setRow (p := j) rfl _
theorem cp7_blk {w : World} {j x : Nat} {J J' : Jn} {mv mv' : Value} (h : w.heap[j]? = some (.cells (jcells x J mv) 101 (0, 0))) : (cp7 w j x J' mv').heap[j]? = some (.cells (jcells x J' mv') 101 (0, 0)) := setRow_heap _ _ _ _ _ _ h
theorem Tryz.info101 : (Tryz.prog.info? 101).map (·.size) = some 7 := by kernel_rfl
theorem wpList_ld7 {ops : Array Oper} {rest : List Oper} {op : Oper} {a : Act} {w : World} {Q : Exit → Act → World → Prop} (hgd : op.guard = none) (x : Operand) (ho : op.op = .load 101 x)
    (g : Nat) (hx : a.eval x = .pointer (some ⟨g, 0, none⟩)) (C : Array Value) (hA : w.heap[g]? = some (.cells C 101 (0, 0))) (hl : C.size = 7) (h : wpList Tryz.prog ops Q rest (a.put op.dst (.agg C)) w) : wpList Tryz.prog ops Q (op :: rest) a w :=
  wpList_plain hgd fun _ hK => by
    have := run_loadVar_row (P := Tryz.prog) w g 101 101 C (0, 0) _ hA Tryz.underlying101 rfl (by rw [Tryz.info101, hl])
    unfold Oper.wp execOp
    simp only [ho, hx, Instr.loadAt, Instr.sureAddr, Sem.run_bind, Sem.run_pure, Result.andThen_ok, this]
    exact hK _ _ h
theorem wpList_st7 {ops : Array Oper} {rest : List Oper} {op : Oper} {a : Act} {w : World} {Q : Exit → Act → World → Prop} (hgd : op.guard = none) (x y : Operand) (ho : op.op = .store 101 x y)
    (g : Nat) (hx : a.eval x = .pointer (some ⟨g, 0, none⟩)) (C C' : Array Value) (hy : a.eval y = .agg C') (hA : w.heap[g]? = some (.cells C 101 (0, 0))) (hl : C.size = 7) (hk : C'.size = 7) (h1 : C'.all (·.oneCell') = true) (h : wpList Tryz.prog ops Q rest (a.put op.dst undef) (w.setRow g C')) : wpList Tryz.prog ops Q (op :: rest) a w :=
  wpList_plain hgd fun _ hK => by
    have := run_storeVar_row (P := Tryz.prog) w g 101 101 C C' hA (by rw [Tryz.info101, hk]) (by rw [hl, hk]) h1
    unfold Oper.wp execOp
    simp only [ho, hx, hy, Instr.storeAt, Instr.sureAddr, Sem.run_bind, Sem.run_pure, Result.andThen_ok, this]
    exact hK _ _ h
theorem jcells_one (x : Nat) (J : Jn) (m : Nat) : (jcells x J (.map (some m))).all (·.oneCell') = true := by simp [jcells, Value.oneCell']
theorem toJ_copy {w w4 w7 : World} {F F' : Nat → Prop} {a j x p mb mb' : Nat} {S S' : St} {V V' : Dv} {J J2 : Jn} (hb : Below w.heap.size w w4) (ha : w.heap.size ≤ a) (hjw : j < w.heap.size) (h4 : IsJ w4 F a x p mb S V J) (hj : w4.heap[j]? = some (.cells (jcells x J (.map (some mb))) 101 (0, 0))) (hjn : ¬ JF F a mb j)
    (i : IsJ w7 F' a x p mb' S' V' J2) (g : Gr (JF F a mb) (JF F' a mb') w4 w7) (c : Ch (JF F a mb) w4 w7) : ToJ F w (cp7 w7 j x J2 (.map (some mb'))) j x p mb S' V' J2 := by
  have j4 := block_lt hj
  have hj7 := (c.block j j4 hjn).trans hj
  have nj : ¬ JF F' a mb' j := fun z => (g j z).elim hjn (fun q => by omega)
  have n1 : ¬ F' j := fun z => nj (.inl z)
  have n2 : j ≠ mb' := fun z => nj (.inr (.inr z))
  have hx := i.jx
  have ch := cp7_ch w7 j x J2 (.map (some mb'))
  refine ⟨F', mb', ⟨⟨cp7_blk hj7, hx.ext.of_heap ch.size (fun k hk hF => ch.block k hk (fun e => n1 (by rw [← e]; exact hF))), n1, hx.sok, hx.good, fun k hk => Nat.lt_of_lt_of_le (hx.bd k hk) ch.size⟩, i.map.of_heap (ch.block mb' i.map.lt (fun e => n2 e.symm)), i.mF, n2, i.ok, i.live⟩, fun k hk => ?_, ?_⟩
  · have hn : ∀ k, ¬ k = a → JF F' a mb' k → JF F j mb k ∨ (w.heap.size ≤ k ∧ k < (cp7 w7 j x J2 (.map (some mb'))).heap.size) := fun k hka z => by
      rcases g k z with u | u
      · rcases u with u | u | u
        · exact .inl (.inl u)
        · exact absurd u hka
        · exact .inl (.inr (.inr u))
      · exact .inr ⟨Nat.le_trans hb.size u.1, Nat.lt_of_lt_of_le u.2 ch.size⟩
    rcases hk with z | z | z
    · exact hn k (fun e => i.jx.nj (e ▸ z)) (.inl z)
    · exact .inl (.inr (.inl z))
    · exact hn k (fun e => i.jm (by rw [← e, z])) (.inr (.inr z))
  · refine ⟨(ch.os.trans c.os).trans hb.os, (ch.tape.trans c.tape).trans hb.tape, (ch.output.trans c.output).trans hb.output, Nat.le_trans (Nat.le_trans hb.size c.size) ch.size, fun k hk hn => ?_⟩
    have k4 : k < w4.heap.size := Nat.lt_of_lt_of_le hk hb.size
    have m1 : ¬ JF F a mb k := fun z => by
      rcases z with z | z | z
      · exact hn (.inl z)
      · omega
      · exact hn (.inr (.inr z))
    exact (ch.block k (Nat.lt_of_lt_of_le k4 c.size) (fun e => hn (.inr (.inl e)))).trans ((c.block k k4 m1).trans (hb.block k hk))
theorem ToJ.trans {w w1 w2 : World} {F F1 : Nat → Prop} {j x p mb mb1 : Nat} {S : St} {V : Dv} {J : Jn} (g : Gr (JF F j mb) (JF F1 j mb1) w w1) (c : Ch (JF F j mb) w w1) (h : ToJ F1 w1 w2 j x p mb1 S V J) : ToJ F w w2 j x p mb S V J := by
  obtain ⟨F2, mb2, i, g2, c2⟩ := h
  exact ⟨F2, mb2, i, g.trans g2 c.size c2.size, c.trans g c2⟩
/-- a record is counted -/
theorem take_to {w w' : World} {F : Nat → Prop} {j x p mb : Nat} {S : St} {V : Dv} {J : Jn} {l : List Wt} (h : IsJ w F j x p mb S V J) (hok : (takeJ J l).ok V) (hx : JX w' F j x p (.map (some mb)) S V (takeJ J l)) (hm : MapD w' mb (V.cnt - J.area) (putM J.last l)) (c : Ch (fun k => k = j ∨ k = mb) w w') : ToJ F w w' j x p mb S V (takeJ J l) :=
  ⟨F, mb, ⟨hx, hm, h.mF, h.jm, hok, h.live⟩, Gr.refl _ _ _, ⟨c.os, c.tape, c.output, c.size, fun k hk hn => c.block k hk (fun z => hn (z.elim (fun e => .inr (.inl e)) (fun e => .inr (.inr e))))⟩⟩
/-- a record is written and counted: what the two calls leave -/
theorem IsJ.wv {w w1 : World} {F F1 G : Nat → Prop} {j mb mb1 : Nat} {v : Value} {l : List Wt} (hv : WV w G v l) (g : Gr (JF F j mb) (JF F1 j mb1) w w1) (c : Ch (JF F j mb) w w1) (hG : ∀ k, G k → ¬ JF F j mb k) : WV w1 G v l := hv.keep c hG
theorem hG_of {w w1 : World} {F F1 G : Nat → Prop} {j mb mb1 : Nat} (hGw : ∀ k, G k → k < w.heap.size) (g : Gr (JF F j mb) (JF F1 j mb1) w w1) (hG : ∀ k, G k → ¬ JF F j mb k) : ∀ k, G k → ¬ JF F1 j mb1 k := fun k hk z => (g k z).elim (hG k hk) (fun q => by have := hGw k hk; omega)
end Go.Proofs.YtjippoejaieneaaGreat
