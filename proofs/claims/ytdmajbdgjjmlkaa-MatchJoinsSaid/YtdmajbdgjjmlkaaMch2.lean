/- One more state put behind a machine's: what the call returns. Conditions: the machine lies in memory, and there is room. -/
import Derived.Test.YtdmajbdgjjmlkaaMch
namespace Go.Proofs.Ytdmajbdgjjmlkaa
open Go.RowKit
set_option linter.unusedVariables false
set_option linter.unusedSimpArgs false

theorem infoSta : (Try.prog.info? 59).map (fun i => (i.zero, i.size, i.bytes)) = some (some (.agg #[.int .u64 0, .int .u64 0, .int .u64 0, .int .u64 0, .int .u64 0, .int .u64 0, .int .u64 0, .int .u64 0, .int .u64 0]), 9, 72) := by kernel_rfl
theorem step_append_run {P : Program} {ops : Array Oper} {o : Oper} {a : Act} {w : World} {K : Act → World → Prop} {Q : Exit → Act → World → Prop} {E : Prop} (hgd : o.guard = none) (s x : Operand) (t : TypeId)
    (ho : o.op = .call { callee := .builtin .append, args := #[s, x], argTypes := #[t, t] }) (v sx v' : Value) (w' : World) (hs : a.eval s = v) (hx : a.eval x = sx)
    (hr : (Builtin.append_ #[t, t] o.type #[v, sx]).run P w = .ok v' w') (h : K (a.put o.dst v') w') :
    if Region.wanted o (yielded ops a.tmps) = true then Oper.wp P o a w K Q else E := by
  have hw : Region.wanted o (yielded ops a.tmps) = true := by simp [Region.wanted, hgd]
  rw [if_pos hw]
  exact wp_append_run s x t ho v sx v' w' hs hx hr h
set_option maxRecDepth 100000 in
set_option maxHeartbeats 4000000 in
theorem add_any (n0 p : Nat) (M : Mac) (x : Sta) (few : M.sts.length ≤ 1000) (w : World) (h : IsM n0 p M w) : Calls Try.prog 43 #[.pointer (some ⟨p, 0, none⟩), .agg (staV x).toArray] w fun e w' => e = .returned (.int .i64 (M.sts.length : Nat)) ∧ IsM n0 p ⟨M.sts ++ [x], M.beg⟩ w' ∧ Oth n0 p w w' := by
  have e2 : stasV M.sts ++ staV x = stasV (M.sts ++ [x]) := by rw [stasV_app]; simp [stasV]
  obtain ⟨z0, z1, z2, z3, z4, z5, z6, z7, z8, hz⟩ : ∃ z0 z1 z2 z3 z4 z5 z6 z7 z8 : Int, staV x = [.int .u64 z0, .int .u64 z1, .int .u64 z2, .int .u64 z3, .int .u64 z4, .int .u64 z5, .int .u64 z6, .int .u64 z7, .int .u64 z8] := ⟨_, _, _, _, _, _, _, _, _, rfl⟩
  rw [hz] at e2 ⊢
  rw [show (([.int .u64 z0, .int .u64 z1, .int .u64 z2, .int .u64 z3, .int .u64 z4, .int .u64 z5, .int .u64 z6, .int .u64 z7, .int .u64 z8] : List Value)).toArray = #[.int .u64 z0, .int .u64 z1, .int .u64 z2, .int .u64 z3, .int .u64 z4, .int .u64 z5, .int .u64 z6, .int .u64 z7, .int .u64 z8] from rfl]
  obtain ⟨S, beg⟩ := M
  dsimp only at few ⊢
  have hN : n0 ≤ w.heap.size := Nat.le_trans h.base (Nat.le_of_lt h.lt)
  obtain ⟨W1, hW1⟩ : ∃ W1, W1 = w.alloc (.cells #[.int .u64 z0, .int .u64 z1, .int .u64 z2, .int .u64 z3, .int .u64 z4, .int .u64 z5, .int .u64 z6, .int .u64 z7, .int .u64 z8] 59) := ⟨_, rfl⟩
  have b1 : Below w.heap.size w W1 := by rw [hW1]; exact below_new w _
  have hx1 : W1.heap[w.heap.size]? = some (.cells #[.int .u64 z0, .int .u64 z1, .int .u64 z2, .int .u64 z3, .int .u64 z4, .int .u64 z5, .int .u64 z6, .int .u64 z7, .int .u64 z8] 59 (0, 0)) := by rw [hW1]; exact heap_alloc_new w _
  obtain ⟨W2, hW2⟩ : ∃ W2, W2 = (W1.alloc (.cells #[.int .u64 z0, .int .u64 z1, .int .u64 z2, .int .u64 z3, .int .u64 z4, .int .u64 z5, .int .u64 z6, .int .u64 z7, .int .u64 z8] 59)).drew := ⟨_, rfl⟩
  have b2 : Below W1.heap.size W1 W2 := by rw [hW2]; exact ((Below.refl _ W1).alloc (Nat.le_refl _) _).drew
  have hx2 : W2.heap[W1.heap.size]? = some (.cells #[.int .u64 z0, .int .u64 z1, .int .u64 z2, .int .u64 z3, .int .u64 z4, .int .u64 z5, .int .u64 z6, .int .u64 z7, .int .u64 z8] 59 (0, 0)) := by rw [hW2]; exact heap_alloc_new W1 _
  have b12 := below_trans b1 b2
  have h2 := h.of_below b12
  have O2 : Oth n0 p w W2 := Oth.of_below b12 hN
  obtain ⟨_, v, hc, ho⟩ := h
  have hc1 := (b1.block p (block_lt' hc)).trans hc
  have hc2 := (b12.block p (block_lt' hc)).trans hc
  have g2 : w.grownBy W2 none := ⟨b12.os, b12.tape, b12.output, b12.size, fun i hi _ => b12.block i hi⟩
  have ho2 : W2.ownsRow n0 59 9 v S.length (stasV S) := ho.kept g2 (by cases v.ownBlock <;> simp)
  obtain ⟨i0, hi, hz0, hz1, hz2⟩ := info_parts infoSta
  obtain ⟨v', w', hr, hown, hg, -, -⟩ := run_append_own_at (P := Try.prog) (w := W2) n0 60 60 59 i0 _ 9 72 Try.underlying60 hi hz0 hz1 hz2 rfl (by decide) v _ _ ho2 ⟨W1.heap.size, 0, none⟩ 1 1 [.int .u64 z0, .int .u64 z1, .int .u64 z2, .int .u64 z3, .int .u64 z4, .int .u64 z5, .int .u64 z6, .int .u64 z7, .int .u64 z8] rfl (fun j u hj => by
    rw [show (⟨W1.heap.size, 0, none⟩ : Addr).add j = ⟨W1.heap.size, j, none⟩ by simp [Addr.add]; intro h; exact h.symm]
    rw [cell_of_row W2 _ j _ _ _ hx2]
    simpa using hj) (by intro u hu; simp at hu; rcases hu with rfl | rfl | rfl | rfl | rfl | rfl | rfl | rfl | rfl <;> rfl) (by unfold maxLen; omega) (by omega) (Nat.le_trans hN b12.size)
  have e : S.length + 1 = (S ++ [x]).length := by simp
  rw [e, e2] at hown
  obtain ⟨hA, hO⟩ := IsM.put (M := ⟨S, beg⟩) h2.base hc2 ho2 hown hg (Nat.le_trans hN b12.size)
  have hc' : w'.heap[p]? = some (.cells #[v, .int .u64 (pw beg 0 : Nat), .int .u64 (pw beg 1 : Nat), .int .u64 (pw beg 2 : Nat), .int .u64 (pw beg 3 : Nat), .int .u64 (pw beg 4 : Nat)] 62 (0, 0)) := by
    rw [hg.block p (block_lt' hc2) (fun e => own_ne' ho2 hc2 (by intro c fz e; cases e) e.symm)]; exact hc2
  obtain ⟨ao, cap, rfl⟩ := own_slice' ho
  obtain ⟨ao2, cap2, rfl⟩ := own_slice' hown
  have c0 : W1.drew.cell? ⟨p, 0, none⟩ = some (.slice ao S.length cap) := cell_of_row W1.drew p 0 _ _ _ hc1
  have c0' : W1.cell? ⟨p, 0, none⟩ = some (.slice ao S.length cap) := cell_of_row W1 p 0 _ _ _ hc1
  have c2 : W2.cell? ⟨p, 0, none⟩ = some (.slice ao S.length cap) := cell_of_row W2 p 0 _ _ _ hc2
  have d2 : w'.cell? ⟨p, 0, none⟩ = some (.slice ao S.length cap) := cell_of_row w' p 0 _ _ _ hc'
  have f2 : w'.frozen? ⟨p, 0, none⟩ = false := by simp [World.frozen?, hc']
  obtain ⟨X, hX⟩ : ∃ X, X = w.heap.size := ⟨_, rfl⟩
  have hzz : w.heap.size = X := hX.symm
  obtain ⟨X1, hX1⟩ : ∃ X1, X1 = W1.heap.size := ⟨_, rfl⟩
  rw [hzz] at hx1
  have k0 : W1.drew.cell? ⟨X, 0, none⟩ = some (.int .u64 z0) := cell_of_row W1.drew X 0 _ _ _ hx1
  have k1 : W1.drew.cell? ⟨X, 1, none⟩ = some (.int .u64 z1) := cell_of_row W1.drew X 1 _ _ _ hx1
  have k2 : W1.drew.cell? ⟨X, 2, none⟩ = some (.int .u64 z2) := cell_of_row W1.drew X 2 _ _ _ hx1
  have k3 : W1.drew.cell? ⟨X, 3, none⟩ = some (.int .u64 z3) := cell_of_row W1.drew X 3 _ _ _ hx1
  have k4 : W1.drew.cell? ⟨X, 4, none⟩ = some (.int .u64 z4) := cell_of_row W1.drew X 4 _ _ _ hx1
  have k5 : W1.drew.cell? ⟨X, 5, none⟩ = some (.int .u64 z5) := cell_of_row W1.drew X 5 _ _ _ hx1
  have k6 : W1.drew.cell? ⟨X, 6, none⟩ = some (.int .u64 z6) := cell_of_row W1.drew X 6 _ _ _ hx1
  have k7 : W1.drew.cell? ⟨X, 7, none⟩ = some (.int .u64 z7) := cell_of_row W1.drew X 7 _ _ _ hx1
  have k8 : W1.drew.cell? ⟨X, 8, none⟩ = some (.int .u64 z8) := cell_of_row W1.drew X 8 _ _ _ hx1
  have HW : Hid (IsM n0 p ⟨S ++ [x], beg⟩ (w'.setCell ⟨p, 0, none⟩ (.slice ao2 (S ++ [x]).length cap2)) ∧ Oth n0 p w (w'.setCell ⟨p, 0, none⟩ (.slice ao2 (S ++ [x]).length cap2))) := Lib.hid ⟨hA, O2.trans hO⟩
  have HLEN := Lib.hid e
  rw [← e] at HW
  have hli : (S.length : Int) ≤ 1000 := by omega
  have HR := Lib.hid hr
  have HF : Hid (S.length ≤ 1000) := Lib.hid few
  rw [hW2] at HR c2
  clear hz b1 hx1 b2 hx2 b12 h2 O2 hc ho hc1 hc2 g2 ho2 hi hz0 hz1 hz2 hown hg e e2 hA hO hc' hN hW2 few hX hr
  have HWW : Hid (w.alloc (.cells #[.int .u64 z0, .int .u64 z1, .int .u64 z2, .int .u64 z3, .int .u64 z4, .int .u64 z5, .int .u64 z6, .int .u64 z7, .int .u64 z8] 59) = W1) := Lib.hid hW1.symm
  have HX1 := Lib.hid hX1
  clear hW1 hX1
  go_enter Try.func43, Try.ntmps43
  go_wp2
  rw [HWW.out]
  go_region_law ((refine step_append_run (by rfl) _ _ 60 (by rfl) _ _ _ w' (by rfl) (by rfl) HR.out ?_))
  all_goals
    go_wp2
    go_ret
    exact ⟨by go_num, HW.out⟩
end Go.Proofs.Ytdmajbdgjjmlkaa
