/- Are two rows of pairs the same: what the call returns; nothing that was there turns. Conditions: the rows lie in memory. -/
import Derived.Test.YtdmajbdgjjmlkaaHts
import Derived.Deep.QuietTactic
import Derived.BigQuiet
namespace Go.Proofs.Ytdmajbdgjjmlkaa
open Go.RowKit
set_option linter.unusedVariables false
set_option linter.unusedSimpArgs false

/-- a row of pairs lies there -/
def PrAt (w : World) (v : Value) (l : List (Nat × Nat)) : Prop := ∃ ao cap, v = .slice ao l.length cap ∧ ∀ i (p : Nat × Nat), l[i]? = some p → ∃ a, ao = some a ∧ w.cell? (a.add (i * 2)) = some (.int .i64 (p.1 : Nat)) ∧ w.cell? ⟨(a.add (i * 2)).block, (a.add (i * 2)).off + 1, none⟩ = some (.int .i64 (p.2 : Nat))
theorem prsV_at : ∀ (l : List (Nat × Nat)) (i : Nat) (x : Nat × Nat) (h : l[i]? = some x) (j : Nat) (u : Value), (prV x)[j]? = some u → (prsV l)[i * 2 + j]? = some u
  | [], i, x, h, _, _, _ => by simp at h
  | y :: l, 0, x, h, j, u, hu => by
    simp at h
    subst h
    have hj : j < (prV y).length := (List.getElem?_eq_some_iff.1 hu).1
    rw [prsV, List.getElem?_append_left (by rw [Nat.zero_mul, Nat.zero_add]; exact hj), Nat.zero_mul, Nat.zero_add]
    exact hu
  | y :: l, i + 1, x, h, j, u, hu => by
    rw [prsV, List.getElem?_append_right (by rw [show (prV y).length = 2 from rfl]; omega), show (prV y).length = 2 from rfl, show (i + 1) * 2 + j - 2 = i * 2 + j by omega]
    exact prsV_at l i x (by simpa using h) j u hu
theorem own_pr {D : Nat} {w : World} {v : Value} {l : List (Nat × Nat)} (h : w.ownsRow D 44 2 v l.length (prsV l)) : PrAt w v l := by
  have h0 := h
  rcases h.2 with ⟨rfl, h2⟩ | ⟨g, cap, cur, rfl, hb, hg, h3⟩
  · have : l = [] := List.length_eq_zero_iff.1 h2
    subst this
    exact ⟨none, 0, rfl, fun i p hp => by simp at hp⟩
  · refine ⟨some ⟨g, 0, none⟩, cap, rfl, fun i p hp => ⟨_, rfl, ?_, ?_⟩⟩
    · have := h0.cells (g := g) rfl _ _ (prsV_at l i p hp 0 _ rfl)
      exact this
    · have := h0.cells (g := g) rfl _ _ (prsV_at l i p hp 1 _ rfl)
      rw [add0] at this ⊢
      exact this
theorem PrAt.below {w w' : World} {v : Value} {l : List (Nat × Nat)} (h : PrAt w v l) (hb : Below w.heap.size w w') : PrAt w' v l := by
  obtain ⟨ao, cap, rfl, hc⟩ := h
  refine ⟨ao, cap, rfl, fun i p hp => ?_⟩
  obtain ⟨a, rfl, h1, h2⟩ := hc i p hp
  have hl := World.block_lt_of_cell? w _ h1
  refine ⟨a, rfl, ?_, ?_⟩
  · rw [hb.cell hl]; exact h1
  · rw [hb.cell (p := ⟨(a.add (i * 2)).block, (a.add (i * 2)).off + 1, none⟩) hl]; exact h2
theorem eq44 (a b a' b' : Int) (n : Nat) (w : World) :
    (Op.equalIn (n + 2) 44 (.agg #[.int .i64 a, .int .i64 b]) (.agg #[.int .i64 a', .int .i64 b'])).run Try.prog w = .ok (a == a' && b == b') w := by
  have hi : ∃ i0, Try.prog.info? 3 = some i0 := Option.isSome_iff_exists.1 (by kernel_rfl)
  obtain ⟨i0, hi⟩ := hi
  have c3 : Try.prog.cellsOf 3 = 1 := by kernel_rfl
  have hagg : (isAgg 3).run Try.prog w = .ok false w := by simp
  rw [run_equalIn_array w (n + 1) _ _ Try.underlying44 hi, c3, items_all (n + 1) 3 1 _ _ (fun i => if i = 0 then a == a' else b == b') w _ ?_]
  · simp [List.range, List.range.loop]
  · intro i hi
    have : i = 0 ∨ i = 1 := by have := List.mem_range.1 hi; omega
    rcases this with rfl | rfl
    · exact ⟨.int .i64 a, .int .i64 a', by simp [part, hagg], by simp [part, hagg], by simpa using run_equalIn_int w n 3 .i64 .i64 a a' Try.underlying3⟩
    · exact ⟨.int .i64 b, .int .i64 b', by simp [part, hagg], by simp [part, hagg], by simpa using run_equalIn_int w n 3 .i64 .i64 b b' Try.underlying3⟩
noncomputable def neq44 (x y : Value) : Sem Value := binOp .neq 44 x y
theorem neq44_pre (x y : Value) : binOp .neq 44 x y = neq44 x y := rfl
theorem neq44_run (a b a' b' : Int) (w : World) : (neq44 (.agg #[.int .i64 a, .int .i64 b]) (.agg #[.int .i64 a', .int .i64 b'])).run Try.prog w = .ok (.bool (!(a == a' && b == b'))) w := by
  show (binOp .neq 44 _ _).run Try.prog w = _
  rw [run_neq_struct, eq44 a b a' b' 9998 w, Result.andThen_ok]
attribute [local go_sem ↓] neq44_pre
attribute [local go_sem] neq44_run
set_option maxRecDepth 100000 in
set_option maxHeartbeats 4000000 in
theorem same_any (w : World) (v1 v2 : Value) (l1 l2 : List (Nat × Nat)) (h1 : PrAt w v1 l1) (h2 : PrAt w v2 l2) (few : l1.length ≤ 1000) : Calls Try.prog 22 #[v1, v2] w fun e w' => e = .returned (.bool (decide (l1 = l2))) ∧ Below w.heap.size w w' := by
  obtain ⟨ao, cap, rfl, hc1⟩ := h1
  obtain ⟨bo, caq, rfl, hc2⟩ := h2
  have hli : (l1.length : Int) ≤ 1000 := by omega
  by_cases hn : l1.length = l2.length
  · have hni : ((l1.length : Nat) : Int) = ((l2.length : Nat) : Int) := by omega
    obtain ⟨r, hr⟩ : ∃ r, r = decide (l1 = l2) := ⟨_, rfl⟩
    rw [← hr]
    have HR := Lib.hid hr
    have HC := Lib.hid (And.intro hc1 hc2)
    obtain ⟨n, hnn⟩ : ∃ n, n = l1.length := ⟨_, rfl⟩
    rw [← hnn] at hli ⊢
    rw [show l2.length = n by omega]
    have HN := Lib.hid (And.intro hnn (show l2.length = n by omega))
    have HB0 : Hid (Below w.heap.size w w) := Lib.hid (Below.refl _ _)
    clear hn hni hr hc1 hc2 few hnn
    go_enter Try.func22, Try.ntmps22
    go_wp2
    go_loopw [5] (fun i wr => ∃ j : Nat, j ≤ n ∧ i = .int .i64 (j : Nat) ∧ Hid (Below w.heap.size w wr ∧ ∀ k, k < j → l1[k]? = l2[k]?)) (fun i _ => n - (intOf i).toNat)
    case atStart => exact ⟨0, Nat.zero_le _, rfl, Lib.hid ⟨HB0.out, fun k hk => by omega⟩⟩
    case round =>
      obtain ⟨j, hj, rfl, HH⟩ := hrel
      by_cases hlt : j < n
      · have hji : (j : Int) < (n : Int) := by omega
        have g1 : l1[j]? = some (l1[j]'(by have := HN.out; omega)) := List.getElem?_eq_getElem _
        have g2 : l2[j]? = some (l2[j]'(by have := HN.out; omega)) := List.getElem?_eq_getElem _
        generalize l1[j]'(by have := HN.out; omega) = p1 at *
        generalize l2[j]'(by have := HN.out; omega) = p2 at *
        obtain ⟨a, rfl, x1, x2⟩ := HC.out.1 j p1 g1
        obtain ⟨b, rfl, y1, y2⟩ := HC.out.2 j p2 g2
        have hlx := World.block_lt_of_cell? w _ x1
        have hly := World.block_lt_of_cell? w _ y1
        have CX : Hid (∀ w1, Below w.heap.size w w1 → (w1.cell? (a.add (j * 2)) = some (.int .i64 (p1.1 : Nat)) ∧ w1.cell? ⟨(a.add (j * 2)).block, (a.add (j * 2)).off + 1, none⟩ = some (.int .i64 (p1.2 : Nat))) ∧ w1.cell? (b.add (j * 2)) = some (.int .i64 (p2.1 : Nat)) ∧ w1.cell? ⟨(b.add (j * 2)).block, (b.add (j * 2)).off + 1, none⟩ = some (.int .i64 (p2.2 : Nat))) := Lib.hid fun w1 hb => by
          refine ⟨⟨?_, ?_⟩, ?_, ?_⟩
          · rw [hb.cell hlx]; exact x1
          · rw [hb.cell (p := ⟨(a.add (j * 2)).block, (a.add (j * 2)).off + 1, none⟩) hlx]; exact x2
          · rw [hb.cell hly]; exact y1
          · rw [hb.cell (p := ⟨(b.add (j * 2)).block, (b.add (j * 2)).off + 1, none⟩) hly]; exact y2
        obtain ⟨⟨d1, d2⟩, d3, d4⟩ := CX.out wr HH.out.1
        obtain ⟨⟨f1, f2⟩, f3, f4⟩ := CX.out wr.drew HH.out.1.drew
        have HBW : Hid (∀ n, Below w.heap.size w (wr.drewN n)) := Lib.hid fun n => below_drewN HH.out.1 n
        have HQ := Lib.hid (And.intro g1 (And.intro g2 (And.intro HH.out.2 hlt)))
        obtain ⟨pa, pb⟩ := p1
        obtain ⟨qa, qb⟩ := p2
        dsimp only at d1 d2 d3 d4 f1 f2 f3 f4
        clear g1 g2 x1 x2 y1 y2 hlx hly CX HH hj hlt
        by_cases hp : pa = qa ∧ pb = qb
        · obtain ⟨rfl, rfl⟩ := hp
          go_wp2
          go_quiet (fail)
          have HB9 := HBW.out nq
          generalize wr.drewN nq = w9 at *
          go_wp2
          exact ⟨⟨j + 1, HQ.out.2.2.2, by go_num, Lib.hid ⟨HB9, fun k hk => by
            by_cases e : k = j
            · subst e; rw [HQ.out.1, HQ.out.2.1]
            · exact HQ.out.2.2.1 k (by omega)⟩⟩, by simp [intOf]; have := HQ.out.2.2.2; omega⟩
        · have hE : (((pa : Nat) : Int) == ((qa : Nat) : Int) && ((pb : Nat) : Int) == ((qb : Nat) : Int)) = false := by
            cases h9 : (((pa : Nat) : Int) == ((qa : Nat) : Int) && ((pb : Nat) : Int) == ((qb : Nat) : Int))
            · rfl
            · simp only [Bool.and_eq_true, beq_iff_eq] at h9
              exact absurd ⟨by omega, by omega⟩ hp
          have hfin : Hid (r = false) := Lib.hid (by
            rw [HR.out]
            refine decide_eq_false fun e => hp ?_
            have h9 := HQ.out.1
            rw [e, HQ.out.2.1] at h9
            have h8 := Option.some.inj h9
            exact ⟨(congrArg Prod.fst h8).symm, (congrArg Prod.snd h8).symm⟩)
          clear hp
          go_wp2
          go_quiet (fail)
          have HB9 := HBW.out nq
          generalize wr.drewN nq = w9 at *
          go_wp2
          go_ret
          exact ⟨by rw [hfin.out]; rfl, HB9⟩
      · have hjl : j = n := by omega
        subst hjl
        have hfin : Hid (r = true) := Lib.hid (by
          rw [HR.out]
          refine decide_eq_true (List.ext_getElem? fun k => ?_)
          by_cases hk : k < j
          · exact HH.out.2 k hk
          · rw [List.getElem?_eq_none (by have := HN.out; omega), List.getElem?_eq_none (by have := HN.out; omega)])
        have HB := Lib.hid HH.out.1
        clear HH hj hlt
        go_wp2
        go_ret
        exact ⟨by rw [hfin.out]; rfl, HB.out⟩
  · have hni : ¬ ((l1.length : Nat) : Int) = ((l2.length : Nat) : Int) := by omega
    have hne : l1 ≠ l2 := fun e => hn (by rw [e])
    rw [decide_eq_false hne]
    clear hc1 hc2 few hne
    go_enter Try.func22, Try.ntmps22
    go_wp2
    go_ret
    exact ⟨rfl, Below.refl _ _⟩
end Go.Proofs.Ytdmajbdgjjmlkaa
