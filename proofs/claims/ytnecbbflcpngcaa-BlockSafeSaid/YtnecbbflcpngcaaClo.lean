/- Rows of bytes and of numbers cloned, a string cloned; a map cloned. Conditions: the rows are few enough for a machine. -/
import Derived.Test.YtnecbbflcpngcaaDsk

import Derived.Test.YtnecbbflcpngcaaCRead
namespace Go.Proofs.Ytnecbbflcpngcaa
open Go.RowKit Go.Maps
set_option maxRecDepth 20000
set_option linter.unusedVariables false

theorem below_drew {B : Nat} {a w : World} (h : Below B a w) : Below B a w.drew := ⟨h.os, h.tape, h.output, h.size, h.block⟩
theorem Try.info5 : (Try.prog.info? 5).map (fun i => (i.zero, i.size, i.bytes)) = some (some (.int .u8 0), 1, 1) := by kernel_rfl
theorem Try.info3 : (Try.prog.info? 3).map (fun i => (i.zero, i.size, i.bytes)) = some (some (.int .i64 0), 1, 8) := by kernel_rfl
theorem wpList_append_run {ops : Array Oper} {rest : List Oper} {o : Oper} {a : Act} {w : World} {Q : Exit → Act → World → Prop} (hgd : o.guard = none) (s x : Operand) (t : TypeId)
    (ho : o.op = .call { callee := .builtin .append, args := #[s, x], argTypes := #[t, t] }) (vs vx v' : Value) (w' : World) (hs : a.eval s = vs) (hx : a.eval x = vx)
    (hr : (Builtin.append_ #[t, t] o.type #[vs, vx]).run Try.prog w = .ok v' w') (hk : wpList Try.prog ops Q rest (a.put o.dst v') w') : wpList Try.prog ops Q (o :: rest) a w := by
  refine wpList_plain hgd fun K hK => ?_
  unfold Oper.wp execOp
  simp only [ho, resolve, invoke, builtin, Sem.run_bind, Sem.run_pure, Result.andThen_ok, List.map_toArray, List.map_cons, List.map_nil, hs, hx, hr]
  exact hK _ _ hk
/-- append of a row to an empty one -/
theorem append0 {w : World} (t e : TypeId) (z : Value) (by' : Nat) (ht : Try.prog.underlying t = some (.slice e)) (hinf : (Try.prog.info? e).map (fun i => (i.zero, i.size, i.bytes)) = some (some z, 1, by')) (h1z : z.cells = #[z])
    (ty : TypeId) (g : Nat) (ad : Addr) (m c : Nat) (news : List Value) (hm : news.length = m) (h0 : 0 < m) (hnews : ∀ j u, news[j]? = some u → w.cell? (ad.add j) = some u) (hsz : m * by' ≤ 140737488355328) (hb : 0 < by') :
    ∃ cap cur g' w', (Builtin.append_ #[t, t] ty #[.slice (some ⟨g, 0, none⟩) 0 0, .slice (some ad) m c]).run Try.prog w = .ok (.slice (some ⟨g', 0, none⟩) m cap) w' ∧ w'.heap[g']? = some (.cells cur e (0, 0)) ∧ w.heap.size ≤ g' ∧ Below w.heap.size w w' ∧ m ≤ cap ∧ cap ≤ maxLen ∧ cur.size = cap ∧ cur.toList.take m = news := by
  obtain ⟨i0, hi, hz0, hz1, hz2⟩ := info_parts hinf
  have hm2 : m ≤ 140737488355328 := Nat.le_trans (Nat.le_mul_of_pos_right m hb) hsz
  have hr := run_append_grow (P := Try.prog) w t ty e i0 z ht hi hz0 ⟨g, 0, none⟩ 0 0 [] (by simp) (by simp) ad m c news (by rw [hz1, Nat.mul_one, hm]) hnews (by omega) (by omega) (by rw [hz2, Nat.zero_add]; exact growslice_fits (by omega) (by omega))
  have hge := grownCap_ge w (0 + m) 0 e
  have hcm2 : grownCap w (0 + m) 0 e ≤ maxLen := grownCap_le_maxLen w (0 + m) 0 e (by unfold maxLen; omega)
  rw [Nat.zero_add] at hr hge hcm2
  refine ⟨_, _, _, _, hr, heap_alloc_new w.drew _, Nat.le_refl _, Below.alloc (below_drew (Below.refl _ w)) (Nat.le_refl _) _, hge, hcm2, ?_, ?_⟩
  · simp [size_zeroCells, hm, h1z]; omega
  · simp [← hm]
set_option maxHeartbeats 400000 in
theorem cloneB_any (g cap : Nat) (l : Bts) (w : World) (h : RowB w g cap l) (h0 : 0 < l.length) (hl : l.length ≤ 524288) :
    Calls Try.prog 50 #[.slice (some ⟨g, 0, none⟩) l.length cap] w fun e w' => ∃ g' cap', e = .returned (.slice (some ⟨g', 0, none⟩) l.length cap') ∧ w.heap.size ≤ g' ∧ RowB w' g' cap' l ∧ Below w.heap.size w w' := by
  have hc := take_of_row (h.of_heap (w' := w.alloc (.cells #[] 5)) (Below.heap_alloc w _ g h.lt))
  obtain ⟨cap', cur, g2, w2, hr, hg, hgl, hbw, h1, h2, h3, h4⟩ := append0 (w := w.alloc (.cells #[] 5)) 30 5 (.int .u8 0) 1 Try.underlying30 Try.info5 rfl 30 w.heap.size ⟨g, 0, none⟩ l.length cap (l.map cellB) (by simp) h0 hc (by omega) (by omega)
  have HB : Hid (RowB w2 g2 cap' l) := ⟨cur, (0, 0), hg, .inl rfl, h1, h2, h3, h4⟩
  have HW : Hid (Below w.heap.size w w2 ∧ w.heap.size ≤ g2) := ⟨((Below.refl _ w).alloc (Nat.le_refl _) (.cells #[] 5)).trans (hbw.mono (by simp)), by simp at hgl; omega⟩
  clear hc h1 h2 h3 h4 h hl hg hgl hbw
  have hqe := Lib.run_eql_slice_nil (P := Try.prog) w 30 5 (some ⟨g, 0, none⟩) l.length cap 0 0 Try.underlying30
  go_enter Try.func50, Try.ntmps50
  go_wp2_with (at_builtin; refine wpList_append_run rfl (.tmp 5) (.tmp 6) 30 rfl _ _ _ _ rfl rfl hr ?_)
  go_ret
  exact ⟨_, cap', rfl, HW.out.2, HB.out, HW.out.1⟩
theorem append_none (w : World) (t e : TypeId) (z : Value) (by' : Nat) (ht : Try.prog.underlying t = some (.slice e)) (hinf : (Try.prog.info? e).map (fun i => (i.zero, i.size, i.bytes)) = some (some z, 1, by')) (ty : TypeId) (g : Nat) (q : Option Addr) (c : Nat) :
    (Builtin.append_ #[t, t] ty #[.slice (some ⟨g, 0, none⟩) 0 0, .slice q 0 c]).run Try.prog w = .ok (.slice (some ⟨g, 0, none⟩) 0 0) w := by
  obtain ⟨i0, hi, hz0, hz1, hz2⟩ := info_parts hinf
  cases q with
  | none => simp [Builtin.append_, run_underlying ht, Go.sizeOf, typeInfo, hi, hz1, Builtin.lenOf, Builtin.firstCells, storeCells, Result.andThen]
  | some ad =>
    have hf := run_firstCells_some (P := Try.prog) (w := w) 1 0 ad 0 c [] (by simp) (by simp)
    simp [Builtin.append_, run_underlying ht, Go.sizeOf, typeInfo, hi, hz1, Builtin.lenOf, hf, storeCells, Result.andThen]
def cellI (x : Int) : Value := .int .i64 x
set_option maxHeartbeats 400000 in
theorem cloneI_any (G : Nat → Prop) (v : Value) (l : List Int) (w : World) (h : CV w G v l) (hl : l.length ≤ 17592186044416) :
    Calls Try.prog 52 #[v] w fun e w' => ∃ v', e = .returned v' ∧ CV w' (fun b => w.heap.size ≤ b) v' l ∧ Below w.heap.size w w' := by
  obtain ⟨q, cap, rfl, hle, hc⟩ := h
  cases hq : l with
  | nil =>
    subst hq
    clear hc hl
    rw [List.length_nil] at *
    cases q with
    | none =>
      have hqe := Lib.run_eql_slice_nil (P := Try.prog) w 52 3 none 0 cap 0 0 Try.underlying52
      go_enter Try.func52, Try.ntmps52
      go_wp2
      go_ret
      exact ⟨_, rfl, CV.nil _ _, Below.refl _ _⟩
    | some ad =>
      have hr := append_none (w.alloc (.cells #[] 3)) 52 3 (.int .i64 0) 8 Try.underlying52 Try.info3 52 w.heap.size (some ad) cap
      have hqe := Lib.run_eql_slice_nil (P := Try.prog) w 52 3 (some ad) 0 cap 0 0 Try.underlying52
      go_enter Try.func52, Try.ntmps52
      go_wp2
      go_ret
      exact ⟨_, rfl, ⟨_, 0, rfl, Nat.le_refl _, fun h => absurd rfl h⟩, (Below.refl _ w).alloc (Nat.le_refl _) _⟩
  | cons x r =>
    rw [← hq]
    have hne : l ≠ [] := by rw [hq]; simp
    have h0 : 0 < l.length := by rw [hq]; simp
    obtain ⟨b, o, rfl, _, hlt, hcell⟩ := hc hne
    have hc2 : ∀ j u, (l.map cellI)[j]? = some u → (w.alloc (.cells #[] 3)).cell? ((⟨b, o, none⟩ : Addr).add j) = some u := by
      intro j u hu
      rw [List.getElem?_map] at hu
      obtain ⟨y, hy, rfl⟩ := Option.map_eq_some_iff.1 hu
      have hj : j < l.length := (List.getElem?_eq_some_iff.1 hy).1
      have := hcell j hj
      rw [List.getD_eq_getElem?_getD, hy] at this
      rw [addr_at]
      have e : (w.alloc (.cells #[] 3)).heap[b]? = w.heap[b]? := Below.heap_alloc w _ b hlt
      simp only [World.cell?, e] at this ⊢
      exact this
    obtain ⟨cap', cur, g2, w2, hr, hg, hgl, hbw, h1, h2, h3, h4⟩ := append0 (w := w.alloc (.cells #[] 3)) 52 3 (.int .i64 0) 8 Try.underlying52 Try.info3 rfl 52 w.heap.size ⟨b, o, none⟩ l.length cap (l.map cellI) (by simp) h0 hc2 (by omega) (by omega)
    have HB : Hid (CV w2 (fun b => w.heap.size ≤ b) (.slice (some ⟨g2, 0, none⟩) l.length cap') l) := by
      refine ⟨_, cap', rfl, h1, fun _ => ⟨_, 0, rfl, by simp at hgl; omega, block_lt hg, fun j hj => ?_⟩⟩
      rw [Nat.zero_add, cell_of_row _ _ j cur 3 _ hg, ← Array.getElem?_toList]
      have e : (cur.toList.take l.length)[j]? = (l.map cellI)[j]? := by rw [h4]
      rw [List.getElem?_take, if_pos hj, List.getElem?_map, List.getElem?_eq_getElem hj] at e
      rw [e]
      simp [cellI, List.getD, List.getElem?_eq_getElem hj]
    have HW : Hid (Below w.heap.size w w2) := ((Below.refl _ w).alloc (Nat.le_refl _) (.cells #[] 3)).trans (hbw.mono (by simp))
    clear hc2 h1 h2 h3 h4 hl hc hcell hq hle hg hgl hbw
    have hqe := Lib.run_eql_slice_nil (P := Try.prog) w 52 3 (some ⟨b, o, none⟩) l.length cap 0 0 Try.underlying52
    go_enter Try.func52, Try.ntmps52
    go_wp2_with (at_builtin; refine wpList_append_run rfl (.tmp 5) (.tmp 6) 52 rfl _ _ _ _ rfl rfl hr ?_)
    go_ret
    exact ⟨_, rfl, HB.out, HW.out⟩
theorem cloneS_any (s : ByteArray) (w : World) (hs : s.size ≤ 281474976710656) : Calls Try.prog 76 #[.string s] w fun e w' => e = .returned (.string s) ∧ Below w.heap.size w w' := by
  have k := Cd.sclone_any s w hs
  go_enter Try.func76, Try.ntmps76
  go_wp2_with (go_at_call 98; refine k.mono ?_; rintro e w' ⟨rfl, h⟩)
  go_ret
  exact ⟨rfl, h⟩
end Go.Proofs.Ytnecbbflcpngcaa
