/- The document's row of ticks: each tick's window, and its place in that: what the call returns. Conditions: windows that may be. -/
import Derived.Test.YtgbmddjpaibcfaaFai
namespace Go.Proofs.Ytgbmddjpaibcfaa
open Go.RowKit Go.Maps
set_option linter.unusedVariables false
set_option linter.unusedSimpArgs false

/-- t ticks of window i -/
def rowF (i t : Nat) : List (Nat × Nat) := (List.range t).map fun k => (i, k)
def frm (ns : List Nat) : Nat → List (Nat × Nat)
  | 0 => []
  | i + 1 => frm ns i ++ rowF i (ns.getD i 0)
theorem rowF_len (i t : Nat) : (rowF i t).length = t := by simp [rowF]
theorem rowF_succ (i t : Nat) : rowF i (t + 1) = rowF i t ++ [(i, t)] := by simp [rowF, List.range_succ]
theorem frm_len (ns : List Nat) : ∀ i, i ≤ ns.length → (frm ns i).length = bnd ns i
  | 0, _ => by rw [bnd_zero]; rfl
  | i + 1, h => by
    have e : ns.getD i 0 = ns[i]'(by omega) := by rw [List.getD_eq_getElem?_getD, List.getElem?_eq_getElem (by omega)]; rfl
    rw [frm, List.length_append, rowF_len, frm_len ns i (by omega), bnd_succ ns i (by omega), e]
theorem frm_get (ns : List Nat) : ∀ m, m ≤ ns.length → ∀ r, r < bnd ns m → (frm ns m)[r]? = some (loc ns r)
  | 0, _, r, h => by rw [bnd_zero] at h; omega
  | m + 1, hm, r, h => by
    rw [frm]
    have hl := frm_len ns m (by omega)
    by_cases c : r < bnd ns m
    · rw [List.getElem?_append_left (by rw [hl]; exact c)]
      exact frm_get ns m (by omega) r c
    · have e : ns.getD m 0 = ns[m]'(by omega) := by rw [List.getD_eq_getElem?_getD, List.getElem?_eq_getElem (by omega)]; rfl
      have hs := bnd_succ ns m (by omega)
      rw [List.getElem?_append_right (by rw [hl]; omega), hl, loc_is ns r m (by omega) (by omega) h]
      unfold rowF
      rw [List.getElem?_map, List.getElem?_range (by rw [e]; omega)]
      rfl
def frC (xs : List (Nat × Nat)) : List Value := xs.flatMap fun x => [.int .i64 (x.1 : Int), .int .i64 (x.2 : Int)]
theorem frC_len (xs : List (Nat × Nat)) : (frC xs).length = xs.length * 2 := by
  induction xs with
  | nil => rfl
  | cons x xs ih => rw [show frC (x :: xs) = [.int .i64 (x.1 : Int), .int .i64 (x.2 : Int)] ++ frC xs from rfl, List.length_append, ih, List.length_cons]; simp; omega
theorem frC_get : ∀ (xs : List (Nat × Nat)) (j : Nat) (x : Nat × Nat), xs[j]? = some x → (frC xs)[j * 2]? = some (.int .i64 (x.1 : Int)) ∧ (frC xs)[j * 2 + 1]? = some (.int .i64 (x.2 : Int))
  | [], j, x, h => by simp at h
  | y :: xs, 0, x, h => by
    simp at h; subst h
    exact ⟨rfl, rfl⟩
  | y :: xs, j + 1, x, h => by
    have ih := frC_get xs j x (by simpa using h)
    rw [show frC (y :: xs) = .int .i64 (y.1 : Int) :: .int .i64 (y.2 : Int) :: frC xs from rfl, show (j + 1) * 2 = j * 2 + 1 + 1 by omega, show j * 2 + 1 + 1 + 1 = (j * 2 + 1) + 1 + 1 by omega]
    simpa using ih
theorem frC_snoc (xs : List (Nat × Nat)) (x : Nat × Nat) : frC (xs ++ [x]) = frC xs ++ [.int .i64 (x.1 : Int), .int .i64 (x.2 : Int)] := by simp [frC]
theorem wpList_app {ops : Array Oper} {rest : List Oper} {o : Oper} {a : Act} {w : World} {Q : Exit → Act → World → Prop} (hgd : o.guard = none) (s x : Operand) (t : TypeId)
    (ho : o.op = .call { callee := .builtin .append, args := #[s, x], argTypes := #[t, t] }) (vs vx v' : Value) (w' : World) (hs : a.eval s = vs) (hx : a.eval x = vx)
    (hr : (Builtin.append_ #[t, t] o.type #[vs, vx]).run Try.prog w = .ok v' w') (hk : wpList Try.prog ops Q rest (a.put o.dst v') w') : wpList Try.prog ops Q (o :: rest) a w := by
  refine wpList_plain hgd fun K hK => ?_
  unfold Oper.wp execOp
  simp only [ho, resolve, invoke, builtin, Sem.run_bind, Sem.run_pure, Result.andThen_ok, List.map_toArray, List.map_cons, List.map_nil, hs, hx, hr]
  exact hK _ _ hk
theorem Try.info72 : (Try.prog.info? 72).map (fun i => (i.zero, i.size, i.bytes)) = some (some (.agg #[.int .i64 0, .int .i64 0]), 2, 16) := by kernel_rfl
/-- a row of pairs that was made behind n0 -/
def FrV (n0 : Nat) (w : World) (v : Value) (xs : List (Nat × Nat)) : Prop := ∃ g cap, v = .slice (some ⟨g, 0, none⟩) xs.length cap ∧ n0 ≤ g ∧ g < w.heap.size ∧
  ∀ j x, xs[j]? = some x → w.cell? ⟨g, j * 2, none⟩ = some (.int .i64 (x.1 : Int)) ∧ w.cell? ⟨g, j * 2 + 1, none⟩ = some (.int .i64 (x.2 : Int))
theorem FrV.below {n0 : Nat} {w w' : World} {v : Value} {xs : List (Nat × Nat)} (h : FrV n0 w v xs) (hb : Below w.heap.size w w') : FrV n0 w' v xs := by
  obtain ⟨g, cap, h1, h2, h3, h4⟩ := h
  exact ⟨g, cap, h1, h2, by have := hb.size; omega, fun j x hx => ⟨cell_below (h4 j x hx).1 hb, cell_below (h4 j x hx).2 hb⟩⟩
theorem FrV.of_own {n0 : Nat} {w : World} {v : Value} {xs : List (Nat × Nat)} (h : w.ownsRow n0 72 2 v xs.length (frC xs)) (hne : xs ≠ []) : FrV n0 w v xs := by
  rcases h.2 with ⟨_, e⟩ | ⟨g, c, cur, e, hg0, hg, _, _, hcs, htk⟩
  · exact absurd (List.eq_nil_of_length_eq_zero e) hne
  · refine ⟨g, c, e, hg0, block_lt hg, fun j x hx => ?_⟩
    have hj : j < xs.length := by
      rcases Nat.lt_or_ge j xs.length with h | h
      · exact h
      · rw [List.getElem?_eq_none h] at hx; cases hx
    obtain ⟨d0, d1⟩ := frC_get xs j x hx
    rw [← htk, List.getElem?_take, if_pos (by omega), Array.getElem?_toList] at d0 d1
    rw [cell_of_row _ _ _ _ _ _ hg, cell_of_row _ _ _ _ _ _ hg]
    exact ⟨d0, d1⟩
def FrP (w : World) (xs : List (Nat × Nat)) (e : Ending) (w' : World) : Prop := ∃ v, e = .returned v ∧ FrV w.heap.size w' v xs ∧ Below w.heap.size w w'
set_option maxRecDepth 100000 in
set_option maxHeartbeats 4000000 in
theorem frame_any (w : World) (G : Nat → Prop) (v : Value) (ws : List Wn) (ht : WinV G w v ws) (hok : okL ws) :
    Calls Try.prog 33 #[v] w (FrP w (frm (tks ws) ws.length)) := by
  obtain ⟨q, n, cap0, rfl⟩ : ∃ q n cap, v = .slice q n cap := by obtain ⟨q, cap, e, _⟩ := ht; exact ⟨_, _, _, e⟩
  have hn : n = ws.length := by obtain ⟨q, cap, e, _⟩ := ht; injection e
  have hn64 : n ≤ 64 := by rw [hn]; exact hok.2.1
  obtain ⟨i0, hi0, hz0, hz1, hz2⟩ := info_parts Try.info72
  obtain ⟨B0, hB0⟩ : ∃ B0, B0 = w.heap.size := ⟨_, rfl⟩
  obtain ⟨w1, hw1⟩ : ∃ w1, w1 = w.alloc (.cells #[] 72) := ⟨_, rfl⟩
  have ho : w1.ownsRow B0 72 2 (.slice (some ⟨B0, 0, none⟩) 0 0) (frm (tks ws) 0).length (frC (frm (tks ws) 0)) := by
    rw [hw1, hB0]
    exact ⟨rfl, .inr ⟨w.heap.size, 0, #[], rfl, Nat.le_refl _, block_new _ _, Nat.le_refl _, Nat.zero_le _, rfl, rfl⟩⟩
  have hb1 : Below B0 w w1 := by rw [hw1, hB0]; exact (Below.refl _ w).alloc (Nat.le_refl _) _
  have H := Lib.hid (And.intro ht (And.intro hok (And.intro hn hB0)))
  have HO := Lib.hid (And.intro ho hb1)
  have HI := Lib.hid (And.intro hi0 (And.intro hz0 (And.intro hz1 hz2)))
  clear ht hok hn ho hb1 hi0 hz0 hz1 hz2
  go_enter Try.func33, Try.ntmps33
  go_wp2
  rw [← hB0, ← hw1]
  clear hw1 hB0
  go_loopw [3, 4] (fun a b wr => ∃ i : Nat, i ≤ n ∧ b = .int .i64 (i : Int) ∧ wr.ownsRow B0 72 2 a (frm (tks ws) i).length (frC (frm (tks ws) i)) ∧ Below B0 w wr) (fun _ b _ => n - (intOf b).toNat)
  case atStart => exact ⟨0, Nat.zero_le _, rfl, HO.out.1, HO.out.2⟩
  case round =>
    obtain ⟨i, hi, rfl, hown, hbel⟩ := hrel
    by_cases a : i < n
    · have aI : (i : Int) < (n : Int) := by omega
      have hwb : Below w.heap.size w wr := by rw [← H.out.2.2.2]; exact hbel
      obtain ⟨m, hm, hm2⟩ : ∃ m : Nat, (ws.getD i w0).2.2 = (m : Int) ∧ m = (tks ws).getD i 0 := by
        obtain ⟨h1, _, _⟩ := tks_get H.out.2.1 i (by rw [← H.out.2.2.1]; exact a)
        exact ⟨_, h1, by rw [List.getD_eq_getElem?_getD, List.getElem?_eq_getElem (by rw [tks_len, ← H.out.2.2.1]; exact a)]; rfl⟩
      have hm255 : m ≤ 255 := by
        obtain ⟨h1, _, h3⟩ := tks_get H.out.2.1 i (by rw [← H.out.2.2.1]; exact a)
        omega
      have hfl := frm_len (tks ws) i (by rw [tks_len, ← H.out.2.2.1]; exact hi)
      have hbk := bnd_ok H.out.2.1 i (by rw [← H.out.2.2.1]; exact hi)
      obtain ⟨g, oo, rfl, hcl⟩ : ∃ g oo, q = some ⟨g, oo, none⟩ ∧ ∀ W, Below w.heap.size w W → W.cell? ⟨g, oo + i * 3 + 2, none⟩ = some (.int .i64 (m : Int)) := by
        obtain ⟨q', cap, e, _, hc⟩ := H.out.1
        injection e with ea eb ec
        obtain ⟨b, o', hq, _, hlt, hcl⟩ := hc (fun e => by have := H.out.2.1.1; rw [e] at this; simp at this)
        refine ⟨b, o', ea.trans hq, fun W hW => ?_⟩
        have := (hcl i (by have := H.out.2.2.1; omega)).2.2
        rw [hm] at this
        exact cell_below this hW
      have KC := Lib.hid hcl
      have HX := Lib.hid (And.intro hm2 (And.intro hfl hbk))
      have HW := Lib.hid (And.intro hown hbel)
      clear hwb hm hm2 hcl hown hbel hfl hbk
      go_wp2
      go_loopw [3, 5] (fun a b wr' => ∃ k : Nat, k ≤ m ∧ b = .int .i64 (k : Int) ∧ wr'.ownsRow B0 72 2 a (frm (tks ws) i ++ rowF i k).length (frC (frm (tks ws) i ++ rowF i k)) ∧ Below B0 w wr') (fun _ b _ => m - (intOf b).toNat)
      case atStart => exact ⟨0, Nat.zero_le _, rfl, by rw [show rowF i 0 = [] from rfl, List.append_nil]; exact HW.out.1, HW.out.2⟩
      case round =>
        obtain ⟨k, hk, rfl, hown2, hbel2⟩ := hrel
        have hB0' := H.out.2.2.2
        have ct := KC.out _ (show Below w.heap.size w wr by rw [← hB0']; exact hbel2)
        clear hB0'
        by_cases a2 : k < m
        · have a2I : (k : Int) < (m : Int) := by omega
          have hlen : (frm (tks ws) i ++ rowF i k).length = bnd (tks ws) i + k := by rw [List.length_append, rowF_len, HX.out.2.1]
          have hsz : B0 ≤ wr.heap.size := by have := hbel2.size; have := H.out.2.2.2; omega
          have hb16 := HX.out.2.2
          obtain ⟨hi0, hz0, hz1, hz2⟩ := HI.out
          obtain ⟨v', W1, hap, hown', hgr', _, _⟩ := run_append_own_at (P := Try.prog) (w := wr.alloc (.cells #[.int .i64 (i : Int), .int .i64 (k : Int)] 72)) B0 68 68 72 i0 (.agg #[.int .i64 0, .int .i64 0]) 2 16 Try.underlying68 hi0 hz0 hz1 hz2 rfl (by decide) _ _ _ (hown2.alloc _) ⟨wr.heap.size, 0, none⟩ 1 1 [.int .i64 (i : Int), .int .i64 (k : Int)] rfl
            (fun j u hu => by rw [show (⟨wr.heap.size, 0, none⟩ : Addr).add j = ⟨wr.heap.size, j, none⟩ by simp [Addr.add]; intro h; exact h.symm, cell_of_row _ _ _ _ _ _ (block_new wr _)]; simpa using hu)
            (by intro u hu; simp at hu; rcases hu with rfl | rfl <;> rfl) (by rw [hlen]; unfold maxLen; omega) (by rw [hlen]; omega) (by simp; omega)
          have hbel3 : Below B0 w W1 := (hbel2.alloc hsz _).grown hgr' (by simp; omega) (fun j e => (hown2.lt j e).1)
          have hrow : W1.ownsRow B0 72 2 v' (frm (tks ws) i ++ rowF i (k + 1)).length (frC (frm (tks ws) i ++ rowF i (k + 1))) := by
            rw [rowF_succ, ← List.append_assoc, frC_snoc, List.length_append, List.length_singleton]
            exact hown'
          have HR := Lib.hid (And.intro hrow hbel3)
          clear hown2 hbel2 hown' hgr' hrow hbel3 hlen hsz hb16 hi0 hz0 hz1 hz2
          go_wp2_with (at_builtin; refine wpList_app rfl (.tmp 22) (.tmp 26) 68 rfl _ _ _ _ rfl rfl hap ?_)
          exact ⟨⟨k + 1, a2, by simp, HR.out.1, HR.out.2⟩, by simp [intOf]; omega⟩
        · obtain rfl : k = m := by omega
          have HV := Lib.hid (And.intro hown2 hbel2)
          clear hown2 hbel2
          go_wp2
          refine ⟨⟨i + 1, a, by simp, ?_, HV.out.2⟩, by simp [intOf]; omega⟩
          rw [frm, ← HX.out.1]
          exact HV.out.1
    · obtain rfl : i = n := by omega
      have HV := Lib.hid (And.intro hown hbel)
      clear hown hbel
      go_wp2
      go_ret
      refine ⟨_, rfl, ?_, by rw [← H.out.2.2.2]; exact HV.out.2⟩
      rw [← H.out.2.2.2, ← H.out.2.2.1]
      refine FrV.of_own HV.out.1 (fun e => ?_)
      have h1 := congrArg List.length e
      rw [frm_len _ _ (by rw [tks_len, ← H.out.2.2.1]; exact Nat.le_refl _)] at h1
      have h2 := (lenN_ok H.out.2.1).1
      have h3 : bnd (tks ws) i = lenN ws := by rw [H.out.2.2.1, ← tks_len ws, bnd_all]; rfl
      rw [h3] at h1
      simp at h1
      omega
end Go.Proofs.Ytgbmddjpaibcfaa
