/- Memories made and cloned. No conditions. -/
import Derived.Test.YtedhefidfepclaaLay
import Derived.Laws.OwnMore
namespace Go.Proofs.Ytedhefidfepclaa
open Go.RowKit Go.Maps
set_option linter.unusedVariables false

/-- a memory of F frames, new, with the bytes B, at p -/
def NewM (w w' : World) (p F : Nat) (B : Bts) : Prop := ∃ g cap, IsM w' p g cap F B ∧ Below w.heap.size w w' ∧ w.heap.size ≤ p ∧ w.heap.size ≤ g
theorem zeros_at (k : Nat) (h : k < 256) : zeros[k]! = cellB 0 := by
  have hs : k < zeros.size := by rw [zeros_size]; exact h
  rw [getElem!_pos zeros k hs]
  have : zeros.toList[k]? = some (cellB 0) := by
    rw [zeros_list, List.getElem?_map, nb, List.getElem?_replicate, if_pos h]; rfl
  rw [Array.getElem?_toList, Array.getElem?_eq_getElem hs] at this
  exact Option.some.inj this
theorem made_zeros (n : Nat) : (madeCells zeros (n * 256)).toList = (nb (256 * n)).map cellB := by
  apply List.ext_getElem?
  intro j
  unfold madeCells
  rw [zeros_size, Array.getElem?_toList, List.getElem?_map, nb, List.getElem?_replicate]
  by_cases h : j < n * 256
  · rw [if_pos (by omega), Array.getElem?_eq_getElem (by simpa using h)]
    simp only [Array.getElem_map, Array.getElem_range, Option.map_some]
    rw [zeros_at _ (Nat.mod_lt _ (by omega))]
  · rw [if_neg (by omega), Array.getElem?_eq_none (by simpa using h)]; rfl
/-- a row that is owned is a row of bytes -/
theorem row_of_owned {w : World} {base : Nat} {q : Option Addr} {n cap : Nat} {l : Bts} (h : w.ownsRow base 114 256 (.slice q n cap) n (l.map cellB)) (hn : 0 < n) :
    ∃ g, q = some ⟨g, 0, none⟩ ∧ base ≤ g ∧ RowB 114 w g (cap * 256) l ∧ n ≤ cap ∧ l.length = 256 * n := by
  have hl := h.1
  rw [List.length_map] at hl
  rcases h.2 with ⟨e, _⟩ | ⟨g, cap', cur, e, hb, hg, hnc, _, hcs, ht⟩
  · injection e with _ e2; omega
  · injection e with e1 _ e3
    subst e3
    refine ⟨g, e1, hb, ⟨cur, (0, 0), hg, .inl rfl, ?_, hcs, ?_⟩, hnc, by omega⟩
    · rw [hl]; exact Nat.mul_le_mul_right _ hnc
    · rw [hl]; exact ht
set_option maxRecDepth 20000 in
set_option maxHeartbeats 1000000 in
theorem new_no (F : Int) (w : World) (h : ¬ (1 ≤ F ∧ F ≤ 160)) :
    Calls Try.prog 30 #[.int .i64 F] w fun e w' => e = .returned (.tuple #[.pointer none, .int .i64 80]) ∧ w = w' := by
  by_cases a : F < 1
  · go_enter Try.func30, Try.ntmps30
    go_wp2
    go_ret2
    exact ⟨rfl, rfl⟩
  · have b : 160 < F := by omega
    go_enter Try.func30, Try.ntmps30
    go_wp2
    go_ret2
    exact ⟨rfl, rfl⟩
set_option maxRecDepth 20000 in
set_option maxHeartbeats 1000000 in
theorem new_any (F : Nat) (w : World) (h : 1 ≤ F ∧ F ≤ 160) :
    Calls Try.prog 30 #[.int .i64 (F : Int)] w fun e w' => ∃ p, e = .returned (.tuple #[.pointer (some ⟨p, 0, none⟩), .int .i64 0]) ∧ NewM w w' p F (nb (256 * F)) := by
  obtain ⟨i0, hi, hz0, hz1, hz2⟩ := info_parts Try.info114
  obtain ⟨h1, h2⟩ := h
  obtain ⟨w1, hrun, hown, hgr⟩ := run_makeSlice_full w w.heap.size 111 114 i0 (.agg zeros) 256 Try.underlying111 hi hz0 hz1 .i64 .i64 F (by omega) (by rw [hz2]; omega) (by unfold maxLen; omega) (Nat.le_refl _)
  rw [show (Value.agg zeros).cells = zeros from rfl, made_zeros] at hown
  obtain ⟨g, eg, hbg, hrow, hcap, hlen⟩ := row_of_owned hown (by omega)
  obtain rfl : w.heap.size = g := by injection eg with e; injection e
  have hb1 : Below w.heap.size w w1 := (Below.refl _ w).grown hgr (Nat.le_refl _) (fun j e => by cases e)
  have H := Lib.hid (And.intro hrow (And.intro hlen hb1))
  clear hi hz0 hz1 hz2 hown hgr eg hbg hrow hlen hcap hb1
  go_enter Try.func30, Try.ntmps30
  go_wp2
  go_ret2
  obtain ⟨hrow, hlen, hb1⟩ := H.out
  have hb2 := hb1.alloc hb1.size (.cells #[.slice (some ⟨w.heap.size, 0, none⟩) F F] 113)
  have hlt := hrow.lt
  exact ⟨w1.heap.size, rfl, w.heap.size, F, ⟨block_new _ _, hrow.of_heap (Below.heap_alloc _ _ _ hlt), hlen, Nat.le_refl _, h1, h2⟩, hb2, hb1.size, Nat.le_refl _⟩
/-! ### clones -/
theorem wpList_append_run {ops : Array Oper} {rest : List Oper} {o : Oper} {a : Act} {w : World} {Q : Exit → Act → World → Prop} (hgd : o.guard = none) (s x : Operand) (t : TypeId)
    (ho : o.op = .call { callee := .builtin .append, args := #[s, x], argTypes := #[t, t] }) (vs vx v' : Value) (w' : World) (hs : a.eval s = vs) (hx : a.eval x = vx)
    (hr : (Builtin.append_ #[t, t] o.type #[vs, vx]).run Try.prog w = .ok v' w') (hk : wpList Try.prog ops Q rest (a.put o.dst v') w') : wpList Try.prog ops Q (o :: rest) a w := by
  refine wpList_plain hgd fun K hK => ?_
  unfold Oper.wp execOp
  simp only [ho, resolve, invoke, builtin, Sem.run_bind, Sem.run_pure, Result.andThen_ok, List.map_toArray, List.map_cons, List.map_nil, hs, hx, hr]
  exact hK _ _ hk
theorem own_empty (w : World) (b0 : Nat) (h : b0 ≤ w.heap.size) : (w.alloc (.cells #[] 114)).ownsRow b0 114 256 (.slice (some ⟨w.heap.size, 0, none⟩) 0 0) 0 [] :=
  ⟨by simp, .inr ⟨w.heap.size, 0, #[], rfl, h, block_new _ _, Nat.le_refl _, Nat.zero_le _, by simp, by simp⟩⟩
set_option maxRecDepth 20000 in
set_option maxHeartbeats 1000000 in
theorem slclone_any (g cap F : Nat) (B : Bts) (w : World) (hr : RowB 114 w g (cap * 256) B) (hl : B.length = 256 * F) (h1 : 1 ≤ F) (h2 : F ≤ 160) :
    Calls Try.prog 66 #[.slice (some ⟨g, 0, none⟩) F cap] w fun e w' => ∃ g' cap', e = .returned (.slice (some ⟨g', 0, none⟩) F cap') ∧ RowB 114 w' g' (cap' * 256) B ∧ F ≤ cap' ∧ w.heap.size ≤ g' ∧ Below w.heap.size w w' := by
  obtain ⟨i0, hi, hz0, hz1, hz2⟩ := info_parts Try.info114
  have hnil := Lib.run_eql_slice_nil w 111 114 (some ⟨g, 0, none⟩) F cap 0 0 Try.underlying111
  obtain ⟨w1, hw1⟩ : ∃ w1, w1 = w.alloc (.cells #[] 114) := ⟨_, rfl⟩
  have ho := own_empty w w.heap.size (Nat.le_refl _)
  rw [← hw1] at ho
  have hb1 : Below w.heap.size w w1 := by subst hw1; exact (Below.refl _ w).alloc (Nat.le_refl _) _
  have hr1 := hr.of_heap (hb1.block g hr.lt)
  obtain ⟨v', w2, hrun, hown, hgr, hnn, hblk⟩ := run_append_own_at (w := w1) w.heap.size 111 111 114 i0 (.agg zeros) 256 256 Try.underlying111 hi hz0 hz1 hz2 zeros_size (by omega) _ 0 [] ho ⟨g, 0, none⟩ F cap (B.map cellB) (by rw [List.length_map, hl]; omega)
    (by have := take_of_row hr1 0; rwa [List.drop_zero] at this) (by intro u hu; obtain ⟨b, _, rfl⟩ := List.mem_map.1 hu; rfl) (by unfold maxLen; omega) (by omega) hb1.size
  rw [Nat.zero_add, List.nil_append] at hown
  obtain ⟨q, n', cap', rfl⟩ : ∃ q n' cap', v' = .slice q n' cap' := by rcases hown.2 with ⟨e, _⟩ | ⟨_, _, _, e, _⟩ <;> exact ⟨_, _, _, e⟩
  obtain rfl : F = n' := by rcases hown.2 with ⟨e, _⟩ | ⟨_, _, _, e, _⟩ <;> (injection e with _ e2; omega)
  obtain ⟨g', rfl, hbg, hrow, hcap, hlen⟩ := row_of_owned hown (by omega)
  have hb2 : Below w.heap.size w w2 := hb1.grown hgr hb1.size (fun j e => by
    have : w.heap.size = j := by simpa [Value.ownBlock] using e
    omega)
  have H := Lib.hid (And.intro hrow (And.intro hcap (And.intro hbg hb2)))
  rw [hw1] at hrun
  clear hi hz0 hz1 hz2 ho hb1 hr1 hown hgr hnn hblk hbg hrow hcap hlen hb2 hw1 hr hl
  go_enter Try.func66, Try.ntmps66
  go_wp2_with (at_builtin; refine wpList_append_run rfl (.tmp 5) (.tmp 6) 111 rfl _ _ _ _ rfl rfl hrun ?_)
  go_ret
  exact ⟨g', cap', rfl, H.out⟩
set_option maxRecDepth 20000 in
set_option maxHeartbeats 1000000 in
theorem clone_any (p g cap F : Nat) (B : Bts) (w : World) (h : IsM w p g cap F B) :
    Calls Try.prog 44 #[.pointer (some ⟨p, 0, none⟩)] w fun e w' => ∃ p', e = .returned (.pointer (some ⟨p', 0, none⟩)) ∧ NewM w w' p' F B := by
  have k := slclone_any g cap F B w h.row h.len h.lo h.hi
  have c0 := h.cell
  have H := Lib.hid h
  clear h
  go_enter Try.func44, Try.ntmps44
  go_wp2_with (go_at_call 66; refine k.mono ?_; rintro e w' ⟨g', cap', rfl, hrow, hcap, hbg, hb⟩)
  go_ret
  have hb2 := hb.alloc hb.size (.cells #[.slice (some ⟨g', 0, none⟩) F cap'] 113)
  exact ⟨w'.heap.size, rfl, g', cap', ⟨block_new _ _, hrow.of_heap (Below.heap_alloc _ _ _ hrow.lt), H.out.len, hcap, H.out.lo, H.out.hi⟩, hb2, hb.size, hbg⟩
end Go.Proofs.Ytedhefidfepclaa
