/- Are data the same? No conditions. -/
import Derived.Test.YtjippoejaieneaaGreatJda
import Derived.ChangeKeysEq
import Derived.Laws.StructEq
namespace Go.Proofs.YtjippoejaieneaaGreat
open Go.RowKit Go.Maps Go.Op
set_option maxRecDepth 20000
set_option linter.unusedVariables false

theorem Tryz.plain5 : Tryz.prog.plainKey 5 = true := by kernel_rfl
theorem Tryz.cells5 : Tryz.prog.cellsOf 5 = 1 := by kernel_rfl
theorem items_run (d : Nat) (a b : Bts) (w : World) : ∀ is : List Nat, (∀ i ∈ is, i < a.length ∧ i < b.length) → (Op.eqItems (d + 1) 5 1 (a.map cellB).toArray (b.map cellB).toArray is).run Tryz.prog w = .ok (is.all fun i => a.getD i 0 == b.getD i 0) w
  | [], _ => by simp [Op.eqItems]
  | i :: is, h => by
    obtain ⟨h1, h2⟩ := h i List.mem_cons_self
    have ih := items_run d a b w is (fun k hk => h k (List.mem_cons_of_mem _ hk))
    have p1 : (_root_.Go.part 5 (a.map cellB).toArray (i * 1)).run Tryz.prog w = .ok (cellB (a.getD i 0)) w := run_part_plain w Tryz.plain5 (by simp [List.getElem?_eq_getElem h1, List.getD])
    have p2 : (_root_.Go.part 5 (b.map cellB).toArray (i * 1)).run Tryz.prog w = .ok (cellB (b.getD i 0)) w := run_part_plain w Tryz.plain5 (by simp [List.getElem?_eq_getElem h2, List.getD])
    have p3 : (Op.equalIn (d + 1) 5 (cellB (a.getD i 0)) (cellB (b.getD i 0))).run Tryz.prog w = .ok (a.getD i 0 == b.getD i 0) w := by
      unfold cellB
      rw [run_equalIn_int w d 5 .u8 .u8 _ _ Tryz.underlying5]
      congr 1
      rw [Bool.eq_iff_iff]
      simp only [beq_iff_eq]
      constructor
      · intro e; exact UInt8.toNat_inj.1 (by omega)
      · intro e; rw [e]
    simp only [Op.eqItems, Sem.run_bind, p1, p2, p3, Result.andThen_ok]
    cases hz : (a.getD i 0 == b.getD i 0) with
    | false => simp only [Bool.not_false, if_true, Sem.run_pure, List.all_cons, hz, Bool.false_and]
    | true => simp only [Bool.not_true, Bool.false_eq_true, if_false, List.all_cons, hz, Bool.true_and]; exact ih
theorem neq4 (a b : Bts) (ha : a.length = 116) (hb : b.length = 116) (w : World) : (binOp .neq 104 (agB a) (agB b)).run Tryz.prog w = .ok (.bool (!decide (a = b))) w := by
  have hi : ∃ i, Tryz.prog.info? 5 = some i := by
    have := Tryz.info5'
    cases hq : Tryz.prog.info? 5 with
    | none => simp [hq] at this
    | some i => exact ⟨i, rfl⟩
  obtain ⟨i, hi⟩ := hi
  unfold agB
  rw [run_neq_struct, show (10000 : Nat) = 9999 + 1 from rfl, run_equalIn_array w 9999 _ _ Tryz.underlying104 hi, Tryz.cells5, show (9999 : Nat) = 9998 + 1 from rfl, items_run 9998 a b w _ (fun k hk => by have := List.mem_range.1 hk; omega)]
  simp only [Result.andThen_ok]
  congr 3
  rw [Bool.eq_iff_iff, List.all_eq_true, decide_eq_true_iff]
  constructor
  · intro h
    apply List.ext_getElem (by omega)
    intro k h1 h2
    have := h k (List.mem_range.2 (by omega))
    simp only [beq_iff_eq, List.getD_eq_getElem?_getD, List.getElem?_eq_getElem h1, List.getElem?_eq_getElem h2, Option.getD_some] at this
    exact this
  · intro e k hk
    rw [e]; simp
end Go.Proofs.YtjippoejaieneaaGreat
