/- Rows of messages: cloned, grown by one, their first one taken away. No conditions. -/
import Derived.Test.YtolcdfkkdhkpfaaChk
import Derived.Test.YtolcdfkkdhkpfaaShlf
namespace Go.Proofs.Ytolcdfkkdhkpfaa
open Go.RowKit Go.Maps Go.Sort Go.Lib
set_option linter.unusedVariables false
set_option linter.unusedSimpArgs false

theorem wpList_app {ops : Array Oper} {rest : List Oper} {o : Oper} {a : Act} {w : World} {Q : Exit → Act → World → Prop} (hgd : o.guard = none) (s x : Operand) (t : TypeId)
    (ho : o.op = .call { callee := .builtin .append, args := #[s, x], argTypes := #[t, t] }) (vs vx v' : Value) (w' : World) (hs : a.eval s = vs) (hx : a.eval x = vx)
    (hr : (Builtin.append_ #[t, t] o.type #[vs, vx]).run Try.prog w = .ok v' w') (hk : wpList Try.prog ops Q rest (a.put o.dst v') w') : wpList Try.prog ops Q (o :: rest) a w := by
  refine wpList_plain hgd fun K hK => ?_
  unfold Oper.wp execOp
  simp only [ho, resolve, invoke, builtin, Sem.run_bind, Sem.run_pure, Result.andThen_ok, List.map_toArray, List.map_cons, List.map_nil, hs, hx, hr]
  exact hK _ _ hk
theorem Try.info9 : (Try.prog.info? 9).map (fun i => (i.zero, i.size, i.bytes)) = some (some (.string ByteArray.empty), 1, 16) := by kernel_rfl
theorem setCells_block (b : Nat) : ∀ (vs : List Value) (o : Nat) (w : World) (cur : Array Value) (t : TypeId) (fr : Nat × Nat), w.heap[b]? = some (.cells cur t fr) →
    ∃ cur' : Array Value, (w.setCells b o vs).heap[b]? = some (.cells cur' t fr) ∧ cur'.size = cur.size ∧ (w.setCells b o vs).heap.size = w.heap.size ∧ (w.setCells b o vs).os = w.os ∧ (w.setCells b o vs).tape = w.tape ∧ (w.setCells b o vs).output = w.output ∧ ∀ k, k ≠ b → (w.setCells b o vs).heap[k]? = w.heap[k]?
  | [], o, w, cur, t, fr, h => ⟨cur, h, rfl, rfl, rfl, rfl, rfl, fun _ _ => rfl⟩
  | v :: r, o, w, cur, t, fr, h => by
    obtain ⟨c, h1, h2, h3, h4, h5, h6, h7⟩ := setCells_block b r (o + 1) (w.setCell ⟨b, o, none⟩ v) _ t fr (block_setCell h)
    exact ⟨c, h1, by rw [h2]; simp, by show ((w.setCell ⟨b, o, none⟩ v).setCells b (o + 1) r).heap.size = _; rw [h3]; simp [World.setCell], h4, h5, h6, fun k hk => (h7 k hk).trans (block_setCell_other (x := ⟨b, o, none⟩) hk)⟩
/-- cells of strings as they stand in a row -/
theorem str_get (l : List ByteArray) (i : Nat) (h : i < l.length) : (l.map Value.string)[i]? = some (.string (l.getD i ByteArray.empty)) := by
  rw [List.getElem?_map, List.getD_eq_getElem?_getD, List.getElem?_eq_getElem h]; rfl
/-- slices.Delete(xs, 0, 1) -/
theorem del_any (w : World) (q : Option Addr) (cap : Nat) (m : ByteArray) (l : List ByteArray) (F : Nat → Prop) (h : w.ownsRow 0 9 1 (.slice q (m :: l).length cap) (m :: l).length ((m :: l).map .string)) (hF : ∀ j, (Value.slice q (m :: l).length cap).ownBlock = some j → F j) :
    Calls Try.prog 34 #[.slice q (m :: l).length cap, .int .i64 0, .int .i64 1] w fun e w' => e = .returned (.slice q l.length cap) ∧ w'.ownsRow 0 9 1 (.slice q l.length cap) l.length (l.map .string) ∧ (∀ j, (Value.slice q l.length cap).ownBlock = some j → F j ∧ TyB w j 9) ∧ Ch (fun k => F k ∧ TyB w k 9) w w' := by
  rcases h.2 with ⟨_, e1⟩ | ⟨g, c, cur, e1, h1, hg, hn, hcm, hcs, htk⟩
  · simp at e1
  · injection e1 with e1 e2 e3
    subst e1; subst e3
    have hFg : F g := hF g rfl
    have hcell : ∀ i, i < (m :: l).length → w.cell? ⟨g, 0 + i, none⟩ = some (.string ((m :: l).getD i ByteArray.empty)) := fun i hi => by
      rw [Nat.zero_add, cell_of_row _ _ _ _ _ _ hg]
      have := str_get (m :: l) i hi
      rw [← htk, List.getElem?_take, if_pos (by omega), Array.getElem?_toList] at this
      exact this
    have k := Try.slices_Delete_string_cells g 0 (m :: l).length cap 0 1 (fun i => (m :: l).getD i ByteArray.empty) w hn (by unfold maxLen at hcm; omega) (by omega) (by simp) hcell (fun j _ => block_free hg)
    refine k.mono ?_
    rintro e w' ⟨rfl, n, rfl⟩
    have hlen : (m :: l).length - (1 - 0) = l.length := by simp
    rw [hlen]
    obtain ⟨vs, hvs⟩ : ∃ vs, vs = (((Lib.strsOf (fun i => (m :: l).getD i ByteArray.empty) (m :: l).length).take 0 ++ (Lib.strsOf (fun i => (m :: l).getD i ByteArray.empty) (m :: l).length).drop 1 ++ List.replicate (1 - 0) []).map encStr) := ⟨_, rfl⟩
    rw [← hvs]
    have hvl : vs.length = l.length + 1 := by rw [hvs]; simp [Lib.strsOf]
    obtain ⟨cur', b1, b2, b3, b4, b5, b6, b7⟩ := setCells_block g vs 0 (w.drewN n) cur 9 (0, 0) hg
    have hin := World.cell?_setCells_in g vs 0 (w.drewN n) (fun j hj => by
      have := hcell j (by simp; omega)
      show (w.cell? ⟨g, 0 + j, none⟩).isSome = true
      rw [this]; rfl)
    refine ⟨rfl, ⟨by simp, .inr ⟨g, cap, cur', rfl, Nat.zero_le _, b1, by simp at hn; omega, hcm, b2.trans hcs, ?_⟩⟩, fun j hj => ?_, b4, b5, b6, by rw [b3]; exact Nat.le_refl _, fun k hk hn => (b7 k (fun e => hn (by subst e; exact ⟨hFg, ⟨_, _, hg⟩⟩)))⟩
    · apply List.ext_getElem?
      intro j
      rw [List.getElem?_take]
      split
      · rename_i hj
        have hj' : j < l.length := by omega
        have := hin j (by omega)
        rw [Nat.zero_add, cell_of_row _ _ _ _ _ _ b1] at this
        rw [Array.getElem?_toList, this, str_get l j hj']
        have e1 : vs[j]? = some (.string (l.getD j ByteArray.empty)) := by
          rw [hvs]
          simp [Lib.strsOf, List.getElem?_append, hj', encStr]
        rw [List.getElem?_eq_getElem (by omega)] at e1
        exact e1
      · rw [List.getElem?_eq_none (by simp; omega)]
    · injection hj with hj
      subst hj
      exact ⟨hFg, ⟨_, _, hg⟩⟩
end Go.Proofs.Ytolcdfkkdhkpfaa
