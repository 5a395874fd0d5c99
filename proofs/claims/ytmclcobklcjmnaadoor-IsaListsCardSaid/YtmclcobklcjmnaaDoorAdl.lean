/- What is appended to an assembly. No conditions. -/
import Derived.Test.YtmclcobklcjmnaaDoorAsm
import Derived.Lib.AppendZeros
namespace Go.Proofs.YtmclcobklcjmnaaDoor
open Go.RowKit Go.Maps
set_option linter.unusedVariables false
set_option linter.unusedSimpArgs false

theorem wp_append_run9 {P : Program} {o : Oper} {a : Act} {w : World} {K : Act → World → Prop} {Q : Exit → Act → World → Prop} (s x : Operand) (t : TypeId)
    (ho : o.op = .call { callee := .builtin .append, args := #[s, x], argTypes := #[t, t] }) (v sx v' : Value) (w' : World) (hs : a.eval s = v) (hx : a.eval x = sx)
    (hr : (Builtin.append_ #[t, t] o.type #[v, sx]).run P w = .ok v' w') (h : K (a.put o.dst v') w') : o.wp P a w K Q := by
  unfold Oper.wp execOp
  simp only [ho, resolve, invoke, builtin, Sem.run_bind, Sem.run_pure, Result.andThen_ok, List.map_toArray, List.map_cons, List.map_nil, hs, hx, hr]
  exact h
theorem step_append_run {P : Program} {ops : Array Oper} {o : Oper} {a : Act} {w : World} {K : Act → World → Prop} {Q : Exit → Act → World → Prop} {E : Prop} (hgd : o.guard = none) (s x : Operand) (t : TypeId)
    (ho : o.op = .call { callee := .builtin .append, args := #[s, x], argTypes := #[t, t] }) (v sx v' : Value) (w' : World) (hs : a.eval s = v) (hx : a.eval x = sx)
    (hr : (Builtin.append_ #[t, t] o.type #[v, sx]).run P w = .ok v' w') (h : K (a.put o.dst v') w') :
    if Region.wanted o (yielded ops a.tmps) = true then Oper.wp P o a w K Q else E := by
  have hw : Region.wanted o (yielded ops a.tmps) = true := by simp [Region.wanted, hgd]
  rw [if_pos hw]
  exact wp_append_run9 s x t ho v sx v' w' hs hx hr h
theorem infoWay : (Tryd.prog.info? 55).map (fun i => (i.zero, i.size, i.bytes)) = some (some (.agg #[.int .i64 0, .int .i64 0, .string ByteArray.empty]), 3, 32) := by kernel_rfl
theorem labB_len {l : Bs} (h : labB l = true) : l.length ≤ 12 := by
  cases l with
  | nil => simp
  | cons x l =>
    rw [show labB (x :: l) = (decide ((x :: l).length ≤ 12) && letB x && (x :: l).all okB) from rfl] at h
    simp at h
    simpa using h.1.1
theorem bof_len {l b lb : Bs} (h : bofP l = some (b, lb)) : b.length = 4 ∧ lb.length ≤ 12 := by
  unfold bofP at h
  split at h
  · split at h
    · have := Option.some.inj h
      obtain ⟨rfl, rfl⟩ := Prod.mk.inj this
      exact ⟨rfl, by simp⟩
    · cases h
  · cases hi : insP l with
    | none => rw [hi] at h; cases h
    | some x =>
      rw [hi] at h
      have := Option.some.inj h
      obtain ⟨rfl, rfl⟩ := Prod.mk.inj this
      refine ⟨rfl, ?_⟩
      unfold insP at hi
      split at hi
      · cases hp : parP l with
        | none => rw [hp] at hi; cases hi
        | some i => rw [hp] at hi; obtain rfl := Option.some.inj hi; simp
      · split at hi
        · cases hi
        · rename_i hc
          split at hi
          · split at hi
            · obtain rfl := Option.some.inj hi
              exact labB_len (by
                cases hq : labB (cutB 64 l).2.1 with
                | true => rfl
                | false => exact absurd (.inr hq) hc)
            · cases hi
          · cases hi
/-- a row is appended to, and the field that holds it is set -/
theorem Asm.addProg {n0 p mb : Nat} {S : St} {w w' : World} {vp vw v' : Value} {b : Bs} (h : Asm n0 p mb S w) (hc : w.heap[p]? = some (.cells #[vp, .map (some mb), vw] 48)) (ho2 : w.ownsRow n0 55 3 vw S.ways.length (waysV S.ways)) (ho1 : w.ownsRow n0 5 1 vp S.prog.length (Lib.byteCells S.prog))
    (hown : w'.ownsRow n0 5 1 v' (S.prog.length + b.length) (Lib.byteCells S.prog ++ Lib.byteCells b)) (hg : w.grownBy w' vp.ownBlock) : Asm n0 p mb { S with prog := S.prog ++ b } (w'.setCell ⟨p, 0, none⟩ v') ∧ Oth n0 p mb w (w'.setCell ⟨p, 0, none⟩ v') := by
  have hmb : ∃ es ck, w.heap[mb]? = some (.map es ck) := by obtain ⟨_, _, _, D, ⟨es, clock, hb, _⟩, _⟩ := h; exact ⟨es, clock, hb⟩
  obtain ⟨es, ck, hmb⟩ := hmb
  have n1 := own_ne ho1 hc (by intro c fz e; cases e)
  have n2 := own_ne ho1 hmb (by intro c fz e; cases e)
  have hp' : w'.heap[p]? = some (.cells #[vp, .map (some mb), vw] 48) := by rw [hg.block p (block_lt hc) n1.symm]; exact hc
  have hmb' : w'.heap[mb]? = some (.map es ck) := by rw [hg.block mb (block_lt hmb) n2.symm]; exact hmb
  have hne := h.map_ne
  have ho2' : w'.ownsRow n0 55 3 vw S.ways.length (waysV S.ways) := ho2.kept hg (by
    rcases ho2.2 with ⟨rfl, _⟩ | ⟨g, cap, cur, rfl, _, hgg, _⟩
    · exact .inl rfl
    · exact .inr (fun e => own_ne ho1 hgg (by intro c fz e; cases e) e.symm))
  have gs : w'.grownBy (w'.setCell ⟨p, 0, none⟩ v') (some p) := ⟨rfl, rfl, rfl, by simp [World.setCell], fun k _ hk => Below.heap_setCell _ _ _ _ (fun e => hk (by simp [e]))⟩
  refine ⟨⟨h.base, h.bmap, ⟨v', vw, set1 hp' v', ?_, ho2'.kept gs (.inr (own_ne ho2' hp' (by intro c fz e; cases e)))⟩, ?_⟩, ?_⟩
  · rw [List.length_append, Lib.byteCells_append]
    exact hown.kept gs (.inr (own_ne hown hp' (by intro c fz e; cases e)))
  · exact h.map.of_heap (by rw [Below.heap_setCell _ _ _ _ (fun e => hne e.symm), hmb', hmb])
  · refine Oth.put ⟨(Below.refl n0 w).grown hg (Nat.le_trans h.base (Nat.le_of_lt h.lt)) (fun k hk => (ho1.lt k hk).1), fun k o hk h1 h2 h3 h4 => ?_⟩ h.base 0 v'
    rw [hg.block k (block_lt hk) (own_ne ho1 hk h3).symm]
    exact hk
theorem Asm.addWay {n0 p mb : Nat} {S : St} {w w' : World} {vp vw v' : Value} {x : Way} (h : Asm n0 p mb S w) (hc : w.heap[p]? = some (.cells #[vp, .map (some mb), vw] 48)) (ho2 : w.ownsRow n0 55 3 vw S.ways.length (waysV S.ways)) (ho1 : w.ownsRow n0 5 1 vp S.prog.length (Lib.byteCells S.prog))
    (hown : w'.ownsRow n0 55 3 v' (S.ways.length + 1) (waysV S.ways ++ wayV x)) (hg : w.grownBy w' vw.ownBlock) : Asm n0 p mb { S with ways := S.ways ++ [x] } (w'.setCell ⟨p, 2, none⟩ v') ∧ Oth n0 p mb w (w'.setCell ⟨p, 2, none⟩ v') := by
  have hmb : ∃ es ck, w.heap[mb]? = some (.map es ck) := by obtain ⟨_, _, _, D, ⟨es, clock, hb, _⟩, _⟩ := h; exact ⟨es, clock, hb⟩
  obtain ⟨es, ck, hmb⟩ := hmb
  have n1 := own_ne ho2 hc (by intro c fz e; cases e)
  have n2 := own_ne ho2 hmb (by intro c fz e; cases e)
  have hp' : w'.heap[p]? = some (.cells #[vp, .map (some mb), vw] 48) := by rw [hg.block p (block_lt hc) n1.symm]; exact hc
  have hmb' : w'.heap[mb]? = some (.map es ck) := by rw [hg.block mb (block_lt hmb) n2.symm]; exact hmb
  have hne := h.map_ne
  have ho1' : w'.ownsRow n0 5 1 vp S.prog.length (Lib.byteCells S.prog) := ho1.kept hg (by
    rcases ho1.2 with ⟨rfl, _⟩ | ⟨g, cap, cur, rfl, _, hgg, _⟩
    · exact .inl rfl
    · exact .inr (fun e => own_ne ho2 hgg (by intro c fz e; cases e) e.symm))
  have gs : w'.grownBy (w'.setCell ⟨p, 2, none⟩ v') (some p) := ⟨rfl, rfl, rfl, by simp [World.setCell], fun k _ hk => Below.heap_setCell _ _ _ _ (fun e => hk (by simp [e]))⟩
  refine ⟨⟨h.base, h.bmap, ⟨vp, v', set1 hp' v', ho1'.kept gs (.inr (own_ne ho1' hp' (by intro c fz e; cases e))), ?_⟩, ?_⟩, ?_⟩
  · rw [List.length_append, show waysV (S.ways ++ [x]) = waysV S.ways ++ wayV x from by simp [waysV]]
    exact hown.kept gs (.inr (own_ne hown hp' (by intro c fz e; cases e)))
  · exact h.map.of_heap (by rw [Below.heap_setCell _ _ _ _ (fun e => hne e.symm), hmb', hmb])
  · refine Oth.put ⟨(Below.refl n0 w).grown hg (Nat.le_trans h.base (Nat.le_of_lt h.lt)) (fun k hk => (ho2.lt k hk).1), fun k o hk h1 h2 h3 h4 => ?_⟩ h.base 2 v'
    rw [hg.block k (block_lt hk) (own_ne ho2 hk h4).symm]
    exact hk
end Go.Proofs.YtmclcobklcjmnaaDoor
