/- A piece of the program is overwritten in place. Conditions: the piece lies within the program. -/
import Derived.Test.YtmclcobklcjmnaaDoorAdl
import Derived.Lib.SlBuf
import Derived.Lib.BufferWrite
namespace Go.Proofs.YtmclcobklcjmnaaDoor
open Go.RowKit Go.Maps
set_option linter.unusedVariables false
set_option linter.unusedSimpArgs false

theorem step_copy_run {P : Program} {ops : Array Oper} {o : Oper} {a : Act} {w : World} {K : Act → World → Prop} {Q : Exit → Act → World → Prop} {E : Prop} (hgd : o.guard = none) (s x : Operand) (t t' : TypeId)
    (ho : o.op = .call { callee := .builtin .copy, args := #[s, x], argTypes := #[t, t'] }) (v sx v' : Value) (w' : World) (hs : a.eval s = v) (hx : a.eval x = sx)
    (hr : (Builtin.copy_ #[t, t'] o.type #[v, sx]).run P w = .ok v' w') (h : K (a.put o.dst v') w') :
    if Region.wanted o (yielded ops a.tmps) = true then Oper.wp P o a w K Q else E := by
  have hw : Region.wanted o (yielded ops a.tmps) = true := by simp [Region.wanted, hgd]
  rw [if_pos hw]
  exact Lib.wp_copy_run w s x t t' ho v sx hs hx hr h

theorem splice_cells (prog b : Bs) (C : List Value) (k : Nat) (hC : C.take prog.length = Lib.byteCells prog) (hk : k + b.length ≤ prog.length) (hn : prog.length ≤ C.length) :
    (C.take k ++ Lib.byteCells b ++ C.drop (k + b.length)).take prog.length = Lib.byteCells (prog.take k ++ b ++ prog.drop (k + b.length)) := by
  have e1 : Lib.byteCells (prog.take k) = C.take k := by
    have : Lib.byteCells (prog.take k) = (Lib.byteCells prog).take k := by simp [Lib.byteCells]
    rw [this, ← hC, List.take_take, Nat.min_eq_left (by omega)]
  have e2 : Lib.byteCells (prog.drop (k + b.length)) = (C.drop (k + b.length)).take (prog.length - (k + b.length)) := by
    have : Lib.byteCells (prog.drop (k + b.length)) = (Lib.byteCells prog).drop (k + b.length) := by simp [Lib.byteCells]
    rw [this, ← hC, List.drop_take]
  rw [Lib.byteCells_append, Lib.byteCells_append, e1, e2, List.take_append, List.take_of_length_le (l := C.take k ++ Lib.byteCells b) (by simp [Lib.byteCells_length]; omega)]
  congr 2
  simp [Lib.byteCells_length]
  omega

/-- all other blocks are as they were, rows of bytes aside -/
structure Oth5 (n0 : Nat) (w w' : World) : Prop where
  below : Below n0 w w'
  old : ∀ (k : Nat) (o : Obj), w.heap[k]? = some o → (∀ c fz, o ≠ .cells c 5 fz) → w'.heap[k]? = some o
theorem Oth5.trans {n0 : Nat} {a b c : World} (h : Oth5 n0 a b) (k : Oth5 n0 b c) : Oth5 n0 a c := ⟨h.below.trans k.below, fun i o hi ho => k.old i o (h.old i o hi ho) ho⟩
theorem Oth5.of_below {n0 : Nat} {w w' : World} (h : Below w.heap.size w w') (hn : n0 ≤ w.heap.size) : Oth5 n0 w w' := ⟨h.mono hn, fun k o hk _ => (h.block k (block_lt hk)).trans hk⟩
theorem Oth5.oth {n0 p mb : Nat} {w w' : World} (h : Oth5 n0 w w') : Oth n0 p mb w w' := ⟨h.below, fun k o hk _ _ h3 _ => h.old k o hk h3⟩
def AsmPost5 (n0 p mb : Nat) (R : Int ⊕ St) (w : World) (e : Ending) (w' : World) : Prop := (match R with | .inl c => e = .returned (.int .i64 c) | .inr S => e = .returned (.int .i64 0) ∧ Asm n0 p mb S w') ∧ Oth5 n0 w w'
theorem Asm.splice {n0 p mb : Nat} {S : St} {w : World} {g cap : Nat} {vw : Value} {cur : Array Value} (h : Asm n0 p mb S w) (hc : w.heap[p]? = some (.cells #[.slice (some ⟨g, 0, none⟩) S.prog.length cap, .map (some mb), vw] 48))
    (ho1 : w.ownsRow n0 5 1 (.slice (some ⟨g, 0, none⟩) S.prog.length cap) S.prog.length (Lib.byteCells S.prog)) (ho2 : w.ownsRow n0 55 3 vw S.ways.length (waysV S.ways)) (hg : w.heap[g]? = some (.cells cur 5 (0, 0))) (k : Nat) (b : Bs) (hk : k + b.length ≤ S.prog.length) :
    Asm n0 p mb { S with prog := S.prog.take k ++ b ++ S.prog.drop (k + b.length) } (w.setRow g (cur.toList.take k ++ Lib.byteCells b ++ cur.toList.drop (k + b.length)).toArray) ∧
    Oth5 n0 w (w.setRow g (cur.toList.take k ++ Lib.byteCells b ++ cur.toList.drop (k + b.length)).toArray) := by
  obtain ⟨W, hW⟩ : ∃ W, W = w.setRow g (cur.toList.take k ++ Lib.byteCells b ++ cur.toList.drop (k + b.length)).toArray := ⟨_, rfl⟩
  rw [← hW]
  have hmb : ∃ es ck, w.heap[mb]? = some (.map es ck) := by obtain ⟨_, _, _, D, ⟨es, clock, hb, _⟩, _⟩ := h; exact ⟨es, clock, hb⟩
  obtain ⟨es, ck, hmb⟩ := hmb
  have gW : W.heap[g]? = some (.cells (cur.toList.take k ++ Lib.byteCells b ++ cur.toList.drop (k + b.length)).toArray 5 (0, 0)) := by rw [hW]; exact setRow_heap w g cur _ 5 (0, 0) hg
  have oW : ∀ j, j ≠ g → W.heap[j]? = w.heap[j]? := fun j hj => by rw [hW]; exact setRow_other w g j _ hj
  have npg : p ≠ g := by rintro rfl; rw [hc] at hg; cases hg
  have nmg : mb ≠ g := by rintro rfl; rw [hmb] at hg; cases hg
  obtain ⟨hl, hcap, hsz, htk, hng, hcm⟩ : S.prog.length ≤ cur.toList.length ∧ S.prog.length ≤ cap ∧ cur.size = cap * 1 ∧ cur.toList.take S.prog.length = Lib.byteCells S.prog ∧ n0 ≤ g ∧ cap ≤ maxLen := by
    rcases ho1.2 with ⟨e, h0⟩ | ⟨g', cap', cur', e, hb, hg', h9, h8, h7, h6⟩
    · cases e
    · injection e with e1 e2 e3
      injection e1 with e4
      injection e4 with e5
      subst e5 e3
      rw [hg] at hg'
      injection hg' with hg'
      injection hg' with e6
      subst e6
      exact ⟨by rw [Array.length_toList]; omega, h9, h7, by rw [← h6, Nat.mul_one], hb, h8⟩
  have gr : w.grownBy W (some g) := by rw [hW]; exact ⟨rfl, rfl, rfl, by simp, fun j _ hj => setRow_other w g j _ (fun e => hj (by simp [e]))⟩
  have ho2' : W.ownsRow n0 55 3 vw S.ways.length (waysV S.ways) := ho2.kept gr (.inr (own_ne ho2 hg (by intro c fz e; cases e)))
  have hlen : (S.prog.take k ++ b ++ S.prog.drop (k + b.length)).length = S.prog.length := by simp; omega
  refine ⟨⟨h.base, h.bmap, ⟨_, vw, (oW p npg).trans hc, ?_, ho2'⟩, h.map.of_heap (oW mb nmg)⟩, ⟨(Below.refl n0 w).grown gr (Nat.le_trans h.base (Nat.le_of_lt h.lt)) (fun k hk => by injection hk with hk; omega), fun j o hj h3 => ?_⟩⟩
  · show W.ownsRow n0 5 1 _ (S.prog.take k ++ b ++ S.prog.drop (k + b.length)).length (Lib.byteCells (S.prog.take k ++ b ++ S.prog.drop (k + b.length)))
    rw [hlen]
    refine ⟨by rw [Lib.byteCells_length, hlen, Nat.mul_one], .inr ⟨g, cap, _, rfl, hng, gW, hcap, hcm, ?_, ?_⟩⟩
    · simp [Lib.byteCells_length]
      have : cur.size = cap := by omega
      omega
    · rw [Nat.mul_one]
      exact splice_cells S.prog b cur.toList k htk hk hl
  · rw [oW j (fun e => by subst e; rw [hg] at hj; injection hj with hj; exact h3 _ _ hj.symm)]
    exact hj
end Go.Proofs.YtmclcobklcjmnaaDoor
