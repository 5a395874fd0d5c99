/- Steps on an extent, one behind the other, till the power goes; a journal's block beside its extent. No conditions. -/
import Derived.Test.YtjippoejaieneaaGreatFxe
import Derived.Test.YtjippoejaieneaaGreatMpd
namespace Go.Proofs.YtjippoejaieneaaGreat
open Go.RowKit Go.Maps Go.Lib
set_option maxRecDepth 20000
set_option linter.unusedVariables false

inductive Stp where
  | wr (i : Int) (d : Bts) (n : Int)
  | bar
def stpE (S : St) (V : Dv) : Stp → Int
  | .wr i d n => wrE S V i d n
  | .bar => (S.flush (V.first : Int) (V.cnt : Int)).2
def stpS (S : St) (V : Dv) : Stp → St
  | .wr i d n => wrS S V i d n
  | .bar => (S.flush (V.first : Int) (V.cnt : Int)).1
def stpV (S : St) (V : Dv) : Stp → Dv
  | .wr i d n => wrV S V i d n
  | .bar => V
/-- what steps leave: they end with the first in which the power goes -/
def runS : List Stp → St → Dv → St × Dv
  | [], S, V => (S, V)
  | s :: r, S, V => if stpE S V s = 2 then (stpS S V s, stpV S V s) else runS r (stpS S V s) (stpV S V s)
def gone : List Stp → St → Dv → Bool
  | [], _, _ => false
  | s :: r, S, V => if stpE S V s = 2 then true else gone r (stpS S V s) (stpV S V s)
theorem run_app : ∀ (a b : List Stp) (S : St) (V : Dv), runS (a ++ b) S V = if gone a S V then runS a S V else runS b (runS a S V).1 (runS a S V).2
  | [], b, S, V => by simp [runS, gone]
  | s :: r, b, S, V => by
    simp only [List.cons_append, runS, gone]
    by_cases q : stpE S V s = 2
    · simp [q]
    · simp only [if_neg q]; exact run_app r b _ _
theorem gone_app : ∀ (a b : List Stp) (S : St) (V : Dv), gone (a ++ b) S V = (gone a S V || gone b (runS a S V).1 (runS a S V).2)
  | [], b, S, V => by simp [runS, gone]
  | s :: r, b, S, V => by
    simp only [List.cons_append, runS, gone]
    by_cases q : stpE S V s = 2
    · simp [q]
    · simp only [if_neg q]; exact gone_app r b _ _
theorem run_one (s : Stp) (S : St) (V : Dv) : runS [s] S V = (stpS S V s, stpV S V s) := by
  simp only [runS]; split <;> rfl
theorem gone_one (s : Stp) (S : St) (V : Dv) : gone [s] S V = decide (stpE S V s = 2) := by
  simp only [gone]; split <;> simp_all
theorem run_snoc {a : List Stp} {S : St} {V : Dv} (h : gone a S V = false) (s : Stp) : runS (a ++ [s]) S V = (stpS (runS a S V).1 (runS a S V).2 s, stpV (runS a S V).1 (runS a S V).2 s) := by
  rw [run_app, h, run_one]; rfl
theorem gone_snoc {a : List Stp} {S : St} {V : Dv} (h : gone a S V = false) (s : Stp) : gone (a ++ [s]) S V = decide (stpE (runS a S V).1 (runS a S V).2 s = 2) := by
  rw [gone_app, h, gone_one]; rfl
theorem gone_more {a b : List Stp} {S : St} {V : Dv} (h : gone a S V = true) : gone (a ++ b) S V = true ∧ runS (a ++ b) S V = runS a S V := by
  rw [gone_app, run_app, h]; exact ⟨rfl, rfl⟩
/-- what each step keeps -/
theorem stp_good {S : St} {V : Dv} (ho : S.ok) (h : Good S V) (s : Stp) : Good (stpS S V s) (stpV S V s) ∧ (stpS S V s).ok ∧ (stpS S V s).count = S.count ∧ (stpV S V s).first = V.first ∧ (stpV S V s).cnt = V.cnt ∧ (stpV S V s).most = V.most ∧ (stpV S V s).mis = V.mis := by
  cases s with
  | wr i d n =>
    obtain ⟨g1, g2, g3⟩ := h.write ho i d n
    obtain ⟨a, b, c, e⟩ := wrV_cnt S V i d n
    exact ⟨g1, g2, g3, a, b, c, e⟩
  | bar =>
    have hc := ho.flush (V.first : Int) (V.cnt : Int)
    exact ⟨h.flush ho, hc.1, hc.2, rfl, rfl, rfl, rfl⟩
theorem run_good : ∀ (l : List Stp) {S : St} {V : Dv}, S.ok → Good S V → Good (runS l S V).1 (runS l S V).2 ∧ (runS l S V).1.ok ∧ (runS l S V).1.count = S.count ∧ (runS l S V).2.first = V.first ∧ (runS l S V).2.cnt = V.cnt ∧ (runS l S V).2.most = V.most ∧ (runS l S V).2.mis = V.mis
  | [], S, V, ho, h => ⟨h, ho, rfl, rfl, rfl, rfl, rfl⟩
  | s :: r, S, V, ho, h => by
    obtain ⟨g1, g2, g3, g4, g5, g6, g7⟩ := stp_good ho h s
    simp only [runS]
    split
    · exact ⟨g1, g2, g3, g4, g5, g6, g7⟩
    · obtain ⟨k1, k2, k3, k4, k5, k6, k7⟩ := run_good r g2 g1
      exact ⟨k1, k2, k3.trans g3, k4.trans g4, k5.trans g5, k6.trans g6, k7.trans g7⟩

/-- a journal's own state -/
structure Jn where
  area : Nat
  head : Int
  next : Int
  en : Int
  last : Nat → Option Bts
  dead : Bool
def jcells (x : Nat) (J : Jn) (mv : Value) : Array Value := #[.pointer (some ⟨x, 0, none⟩), .int .i64 (J.area : Int), .int .i64 J.head, .int .i64 J.next, .int .i64 J.en, mv, .bool J.dead]
structure JX (w : World) (F : Nat → Prop) (j x p : Nat) (mv : Value) (S : St) (V : Dv) (J : Jn) : Prop where
  blk : w.heap[j]? = some (.cells (jcells x J mv) 101 (0, 0))
  ext : IsE w F x p S V
  nj : ¬ F j
  sok : S.ok
  good : Good S V
  bd : ∀ k, F k → k < w.heap.size
def TX (F : Nat → Prop) (w w' : World) (j x p : Nat) (mv : Value) (S : St) (V : Dv) (J : Jn) : Prop := ∃ F', JX w' F' j x p mv S V J ∧ Gr F F' w w' ∧ Ch F w w'
theorem JX.lt {w : World} {F : Nat → Prop} {j x p : Nat} {mv : Value} {S : St} {V : Dv} {J : Jn} (h : JX w F j x p mv S V J) : j < w.heap.size := block_lt h.blk
theorem JX.below {w w' : World} {F : Nat → Prop} {j x p : Nat} {mv : Value} {S : St} {V : Dv} {J : Jn} (h : JX w F j x p mv S V J) (hb : Below w.heap.size w w') : JX w' F j x p mv S V J :=
  ⟨(hb.block j h.lt).trans h.blk, h.ext.below hb, h.nj, h.sok, h.good, fun k hk => Nat.lt_of_lt_of_le (h.bd k hk) hb.size⟩
theorem JX.cells {w : World} {F : Nat → Prop} {j x p : Nat} {mv : Value} {S : St} {V : Dv} {J : Jn} (h : JX w F j x p mv S V J) :
    w.cell? ⟨j, 0, none⟩ = some (.pointer (some ⟨x, 0, none⟩)) ∧ w.cell? ⟨j, 1, none⟩ = some (.int .i64 (J.area : Int)) ∧ w.cell? ⟨j, 2, none⟩ = some (.int .i64 J.head) ∧ w.cell? ⟨j, 3, none⟩ = some (.int .i64 J.next) ∧ w.cell? ⟨j, 4, none⟩ = some (.int .i64 J.en) ∧ w.cell? ⟨j, 5, none⟩ = some mv ∧ w.cell? ⟨j, 6, none⟩ = some (.bool J.dead) := by
  have hb := h.blk
  refine ⟨?_, ?_, ?_, ?_, ?_, ?_, ?_⟩ <;> (rw [cell_of_row _ _ _ _ _ _ hb]; rfl)
theorem JX.to {w w' : World} {F : Nat → Prop} {j x p : Nat} {mv : Value} {S S' : St} {V V' : Dv} {J : Jn} (h : JX w F j x p mv S V J) (e : EE F w w' x p S' V') (ho : S'.ok) (hg : Good S' V') : TX F w w' j x p mv S' V' J := by
  obtain ⟨F', i, g, c⟩ := e
  refine ⟨F', ⟨(c.block j h.lt h.nj).trans h.blk, i, fun z => ?_, ho, hg, fun k hk => (g k hk).elim (fun z => Nat.lt_of_lt_of_le (h.bd k z) c.size) (·.2)⟩, g, c⟩
  rcases g j z with q | ⟨q, _⟩
  · exact h.nj q
  · have := h.lt; omega
theorem TX.refl {w w' : World} {F : Nat → Prop} {j x p : Nat} {mv : Value} {S : St} {V : Dv} {J : Jn} (h : JX w F j x p mv S V J) (hb : Below w.heap.size w w') : TX F w w' j x p mv S V J := ⟨F, h.below hb, Gr.refl _ _ _, Ch.of_below hb⟩
theorem TX.trans {w w1 w2 : World} {F F1 : Nat → Prop} {j x p : Nat} {mv : Value} {S : St} {V : Dv} {J : Jn} (g : Gr F F1 w w1) (c : Ch F w w1) (h : TX F1 w1 w2 j x p mv S V J) : TX F w w2 j x p mv S V J := by
  obtain ⟨F2, k, g2, c2⟩ := h
  exact ⟨F2, k, g.trans g2 c.size c2.size, c.trans g c2⟩
theorem TX.drew {w w' : World} {F : Nat → Prop} {j x p : Nat} {mv : Value} {S : St} {V : Dv} {J : Jn} (h : TX F w w' j x p mv S V J) : TX F w w'.drew j x p mv S V J := by
  obtain ⟨F', k, g, c⟩ := h
  exact ⟨F', ⟨k.blk, k.ext.below (below_drew (Below.refl _ w')), k.nj, k.sok, k.good, k.bd⟩, g, c.drew⟩
/-- what a call gives up by -/
def pnc : Ending := .panicked [{ v := .iface 156 (.agg #[]), recovered := false }]
/-- a call does these steps -/
def Does (l : List Stp) (F : Nat → Prop) (w : World) (j x p : Nat) (mv : Value) (S : St) (V : Dv) (J : Jn) (ret e : Ending) (w' : World) : Prop :=
  e = (if gone l S V then pnc else ret) ∧ TX F w w' j x p mv (runS l S V).1 (runS l S V).2 J
theorem give_no (e : Int) (h : e ≠ 2) (w : World) : Calls Tryz.prog 81 #[.int .i64 e] w fun r w' => r = .returned (.tuple #[]) ∧ w = w' := by
  go_enter Tryz.func81, Tryz.ntmps81
  go_wp2
  go_end0
  exact ⟨rfl, rfl⟩
theorem give_up (w : World) : Calls Tryz.prog 81 #[.int .i64 2] w fun r w' => r = .panicked [{ v := .iface 156 (.agg #[]), recovered := false }] ∧ w = w' := by
  go_enter Tryz.func81, Tryz.ntmps81
  go_wp2
  exact ⟨rfl, rfl, rfl⟩
theorem Does.no {l : List Stp} {F : Nat → Prop} {w w' : World} {j x p : Nat} {mv : Value} {S : St} {V : Dv} {J : Jn} {ret e : Ending} (h : Does l F w j x p mv S V J ret e w') (q : gone l S V = true) : e = .panicked [{ v := .iface 156 (.agg #[]), recovered := false }] ∧ TX F w w' j x p mv (runS l S V).1 (runS l S V).2 J := by
  have h1 := h.1
  rw [if_pos q] at h1
  exact ⟨h1, h.2⟩
theorem Does.yes {l : List Stp} {F : Nat → Prop} {w w' : World} {j x p : Nat} {mv : Value} {S : St} {V : Dv} {J : Jn} {ret e : Ending} (h : Does l F w j x p mv S V J ret e w') (q : gone l S V = false) : e = ret ∧ TX F w w' j x p mv (runS l S V).1 (runS l S V).2 J := by
  have h1 := h.1
  rw [if_neg (by rw [q]; simp)] at h1
  exact ⟨h1, h.2⟩
theorem Does.one {s : Stp} {F : Nat → Prop} {w w' : World} {j x p : Nat} {mv : Value} {S : St} {V : Dv} {J : Jn} {ret e : Ending} (h : JX w F j x p mv S V J) (he : e = if stpE S V s = 2 then pnc else ret) (k : EE F w w' x p (stpS S V s) (stpV S V s)) : Does [s] F w j x p mv S V J ret e w' := by
  obtain ⟨g1, g2, _⟩ := stp_good h.sok h.good s
  refine ⟨?_, ?_⟩
  · rw [he, gone_one]; split <;> simp_all
  · rw [run_one]; exact h.to k g2 g1
set_option maxHeartbeats 1000000 in
/-- a block is written, or the power goes -/
theorem jwrite_any (F : Nat → Prop) (j x p : Nat) (mv : Value) (S : St) (V : Dv) (J : Jn) (i : Int) (d : ByteArray) (n : Int) (w : World) (h : JX w F j x p mv S V J) (hsz : d.size ≤ 281474976710656) :
    Calls Tryz.prog 90 #[.pointer (some ⟨j, 0, none⟩), .int .i64 i, .string d, .int .i64 n] w (Does [.wr i d.data.toList n] F w j x p mv S V J (.returned (.tuple #[]))) := by
  obtain ⟨c0, _⟩ := h.cells
  have k := Lib.hid (dwrite_any F x p S V i d n w h.ext h.good.ok h.good.fit hsz)
  by_cases q : wrE S V i d.data.toList n = 2
  · have H := Lib.hid h
    clear h hsz
    go_enter Tryz.func90, Tryz.ntmps90
    go_wp2_with (first
      | (go_at_call 116; (with_reducible refine k.out.mono ?_); rintro e w1 ⟨rfl, he⟩; rw [q])
      | (go_at_call 81; refine (give_up _).mono ?_; rintro e w2 ⟨rfl, rfl⟩))
    refine ⟨rfl, Does.one H.out ?_ he⟩
    show _ = if wrE S V i d.data.toList n = 2 then pnc else _
    rw [if_pos q]; rfl
  · have H := Lib.hid h
    clear h hsz
    go_enter Tryz.func90, Tryz.ntmps90
    go_wp2_with (first
      | (go_at_call 116; (with_reducible refine k.out.mono ?_); rintro e w1 ⟨rfl, he⟩)
      | (go_at_call 81; refine (give_no _ q _).mono ?_; rintro e w2 ⟨rfl, rfl⟩))
    go_end0
    refine Does.one H.out ?_ he
    show _ = if wrE S V i d.data.toList n = 2 then pnc else _
    rw [if_neg q]
set_option maxHeartbeats 1000000 in
/-- a barrier, or the power goes -/
theorem jbar_any (F : Nat → Prop) (j x p : Nat) (mv : Value) (S : St) (V : Dv) (J : Jn) (w : World) (h : JX w F j x p mv S V J) :
    Calls Tryz.prog 65 #[.pointer (some ⟨j, 0, none⟩)] w (Does [.bar] F w j x p mv S V J (.returned (.tuple #[]))) := by
  obtain ⟨c0, _⟩ := h.cells
  have k := Lib.hid (barrier_any F x p S V w h.ext h.good.fit)
  by_cases q : (S.flush (V.first : Int) (V.cnt : Int)).2 = 2
  · have H := Lib.hid h
    clear h
    go_enter Tryz.func65, Tryz.ntmps65
    go_wp2_with (first
      | (go_at_call 97; (with_reducible refine k.out.mono ?_); rintro e w1 ⟨rfl, he⟩; rw [q])
      | (go_at_call 81; refine (give_up _).mono ?_; rintro e w2 ⟨rfl, rfl⟩))
    refine ⟨rfl, Does.one H.out ?_ he⟩
    show _ = if (S.flush (V.first : Int) (V.cnt : Int)).2 = 2 then pnc else _
    rw [if_pos q]; rfl
  · have H := Lib.hid h
    clear h
    go_enter Tryz.func65, Tryz.ntmps65
    go_wp2_with (first
      | (go_at_call 97; (with_reducible refine k.out.mono ?_); rintro e w1 ⟨rfl, he⟩)
      | (go_at_call 81; refine (give_no _ q _).mono ?_; rintro e w2 ⟨rfl, rfl⟩))
    go_end0
    refine Does.one H.out ?_ he
    show _ = if (S.flush (V.first : Int) (V.cnt : Int)).2 = 2 then pnc else _
    rw [if_neg q]
end Go.Proofs.YtjippoejaieneaaGreat
