/- A set's levels as a list, rising: what the call returns; nothing that was there turns. No conditions. -/
import Derived.Test.YtbkpfiagoinoiaaHas
import Derived.OwnWalk
namespace Go.Proofs.Ytbkpfiagoinoiaa
open Go.RowKit
set_option linter.unusedVariables false
attribute [local go_sem ↓] load47_pre store47_pre load49_pre store49_pre
attribute [local go_sem] load47_run store47_run load49_run store49_run rowOr_some putOr_true heap_drew

def cellI (x : Nat) : Value := .int .i64 (x : Int)
def upL (r : Row) (k : Nat) : List Nat := (List.range k).filter r
theorem upL_yes (r : Row) (k : Nat) (h : r k = true) : upL r (k + 1) = upL r k ++ [k] := by simp [upL, List.range_succ, List.filter_append, h]
theorem upL_no (r : Row) (k : Nat) (h : r k = false) : upL r (k + 1) = upL r k := by simp [upL, List.range_succ, List.filter_append, h]
theorem upL_len (r : Row) (k : Nat) : (upL r k).length ≤ k := by
  have := List.length_filter_le r (List.range k)
  simpa [upL] using this
theorem Try.info3 : (Try.prog.info? 3).map (fun i => (i.zero, i.size, i.bytes)) = some (some (.int .i64 0), 1, 8) := by kernel_rfl

set_option maxHeartbeats 1000000 in
theorem list_any (r : Row) (w : World) :
    Calls Try.prog 39 #[.agg (cellsR r)] w fun e w' => ∃ v, e = .returned v ∧ w'.ownsRow (w.heap.size + 1) 3 1 v (upL r 8).length ((upL r 8).map cellI) ∧ Below w.heap.size w w' := by
  obtain ⟨S, hS⟩ : ∃ S, S = cellsR r := ⟨_, rfl⟩
  obtain ⟨B, hB⟩ : ∃ B, B = w.heap.size := ⟨_, rfl⟩
  obtain ⟨i0, hi, hz0, hz1, hz2⟩ := info_parts Try.info3
  have HI := Lib.hid (And.intro hi (And.intro hz0 (And.intro hz1 hz2)))
  rw [← hS]
  have b0 : (w.alloc (.cells S 47)).heap[B]? = some (.cells (cellsR r) 47 (0, 0)) := by rw [← hS, hB]; exact block_new _ _
  have bel : Below B w (w.alloc (.cells S 47)) := by rw [hB]; exact (Below.refl _ w).alloc (Nat.le_refl _) _
  have hsz : B + 1 ≤ (w.alloc (.cells S 47)).heap.size := by rw [hB]; simp
  have own0 : (w.alloc (.cells S 47)).ownsRow (B + 1) 3 1 (.slice none 0 0) (upL r 0).length ((upL r 0).map cellI) := World.ownsRow_nil _ _ _ _
  have HB := Lib.hid hB
  have H0 := Lib.hid b0
  have hzz : w.heap.size = B := hB.symm
  rw [hzz]
  clear hB hS hi hz0 hz1 hz2 b0
  go_enter Try.func39, Try.ntmps39
  go_wp2
  generalize w.alloc (.cells S 47) = w0 at *
  go_loopw [3, 4, 5] (fun v _ i wr => ∃ k : Nat, k ≤ 8 ∧ i = .int .i64 k ∧ wr.heap[B]? = some (.cells (cellsR r) 47 (0, 0)) ∧ wr.ownsRow (B + 1) 3 1 v (upL r k).length ((upL r k).map cellI) ∧ Below B w wr ∧ B + 1 ≤ wr.heap.size) (fun _ _ i _ => 8 - (intOf i).toNat)
  case atStart => exact ⟨0, by omega, rfl, H0.out, own0, bel, hsz⟩
  case round =>
    obtain ⟨k, hk, rfl, h0, own, hb, hs⟩ := hrel
    clear H0 own0 bel hsz hzz
    by_cases hlt : k < 8
    · have hki : (k : Int) < 8 := by omega
      have hi1 := index47 B 0 k hlt
      rw [Nat.zero_add] at hi1
      have c0 : wr.cell? ⟨B, k, none⟩ = some (.bool (r k)) := by rw [cell_of_row wr B _ _ _ _ h0, cellsR_at _ _ hlt]
      have hl := upL_len r k
      by_cases hx : r k = true
      · have e := upL_yes r k hx
        rw [hx] at c0
        have HE := Lib.hid e
        have HH := Lib.hid h0
        clear e hx h0
        go_wp2_with (at_builtin; refine wpList_append_own _ rfl _ _ 38 rfl (B + 1) 3 i0 (.int .i64 0) 1 8 Try.underlying38 HI.out.1 HI.out.2.1 HI.out.2.2.1 HI.out.2.2.2 rfl (by decide) _ _ _ rfl (own.alloc _) ⟨wr.heap.size, 0, none⟩ 1 1 [.int .i64 (k : Int)] rfl rfl ?c1 ?c2 ?c3 ?c4 ?c5 ?_)
        case c1 => intro j u hj; match j, hj with | 0, hj => simp at hj; subst hj; simp [Addr.add]
        case c2 => intro u hu; simp at hu; subst hu; rfl
        case c3 => unfold maxLen; omega
        case c4 => omega
        case c5 => simp; omega
        · intro v' w1 own' hg hnil
          have hb' : Below B w w1 := (hb.alloc (by omega) _).grown hg (by simp; omega) (fun g hgg => by have := (own.lt g hgg).1; omega)
          have hs' : B + 1 ≤ w1.heap.size := by have := hg.size; simp at this; omega
          have h1 : w1.heap[B]? = some (.cells (cellsR r) 47 (0, 0)) := by
            rw [hg.block B (by simp; omega) (fun hh => by have := (own.lt B hh.symm).1; omega)]
            exact block_alloc HH.out _
          have own2 : w1.ownsRow (B + 1) 3 1 v' (upL r (k + 1)).length ((upL r (k + 1)).map cellI) := by
            rw [HE.out, List.length_append, List.map_append]; exact own'
          clear hnil hg own own' hb hs
          go_wp2
          exact ⟨⟨k + 1, by omega, by go_num, h1, own2, hb', hs'⟩, by simp [intOf]; omega⟩
      · have hx' : r k = false := by simpa using hx
        have e := upL_no r k hx'
        rw [hx'] at c0
        rw [← e] at own
        go_wp2
        exact ⟨⟨k + 1, by omega, by go_num, h0, own, hb, hs⟩, by simp [intOf]; omega⟩
    · have hk8 : k = 8 := by omega
      subst hk8
      go_wp2
      go_ret
      exact ⟨_, rfl, own, hb⟩
end Go.Proofs.Ytbkpfiagoinoiaa
