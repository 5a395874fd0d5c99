/- A port's calls: what they return, and what they leave. No conditions. -/
import Derived.Test.YtolcdfkkdhkpfaaRow
namespace Go.Proofs.Ytolcdfkkdhkpfaa
open Go.RowKit Go.Maps Go.Sort Go.Lib
set_option linter.unusedVariables false
set_option linter.unusedSimpArgs false

def deeV2 (p : Nat) (k : Int) : Value := if k = 0 then .agg #[.func (.func 29) #[.pointer (some ⟨p, 0, none⟩)] #[], .func (.func 30) #[.pointer (some ⟨p, 0, none⟩)] #[]] else .agg #[.func (.func 31) #[.pointer (some ⟨p, 0, none⟩)] #[], .func (.func 32) #[.pointer (some ⟨p, 0, none⟩)] #[]]
set_option maxHeartbeats 2000000 in
theorem deeds_any (w : World) (F : Nat → Prop) (p : Nat) (s : Po) (h : IsP w F p s) :
    Calls Try.prog 26 #[.pointer (some ⟨p, 0, none⟩)] w fun e w' => e = .returned (deeV2 p s.kind) ∧ Below w.heap.size w w' := by
  obtain ⟨q, cap, c0, _⟩ := h.cells
  have hlt := h.ltp
  generalize s.kind = k at *
  clear h
  unfold deeV2
  have hmf : ∀ (fn : Fn) (first cap : Array Value) (w : World), (Instr.makeFunc fn first cap).run Try.prog w = .ok (.func fn first cap) w := fun _ _ _ _ => rfl
  have HB : Hid (∀ u v, Below w.heap.size w (w.alloc (.cells #[u, v] 59))) := Lib.hid fun u v => (Below.refl _ w).alloc (Nat.le_refl _) _
  have hn := block_new w (.cells #[.nilFunc, .nilFunc] 59)
  have n0 : (w.alloc (.cells #[.nilFunc, .nilFunc] 59)).cell? ⟨w.heap.size, 0, none⟩ = some .nilFunc := by rw [cell_of_row _ _ _ _ _ _ hn]; rfl
  have n1 : (w.alloc (.cells #[.nilFunc, .nilFunc] 59)).cell? ⟨w.heap.size, 1, none⟩ = some .nilFunc := by rw [cell_of_row _ _ _ _ _ _ hn]; rfl
  have z0 : (w.alloc (.cells #[.nilFunc, .nilFunc] 59)).frozen? ⟨w.heap.size, 0, none⟩ = false := block_free hn
  have z1 : (w.alloc (.cells #[.nilFunc, .nilFunc] 59)).frozen? ⟨w.heap.size, 1, none⟩ = false := block_free hn
  have hst : ∀ (a : Addr) (fn : Fn) (x y : Array Value) (W : World), Sem.run Try.prog (store a (.func fn x y)) W = stored Try.prog W a (.func fn x y) .plain := fun a fn x y W => run_store Try.prog W a _ .plain rfl
  clear hn
  by_cases a : k = 0
  · subst a
    rw [if_pos rfl]
    go_enter Try.func26, Try.ntmps26
    go_wp2
    refine bodyPost_ret (v := .agg #[.func (.func 29) #[.pointer (some ⟨p, 0, none⟩)] #[], .func (.func 30) #[.pointer (some ⟨p, 0, none⟩)] #[]]) (by simp [results, Try.results26, go_sem]) rfl ⟨rfl, ?_⟩
    exact HB.out _ _
  · have a2 : (k == 0) = false := by simpa using a
    rw [if_neg a]
    go_enter Try.func26, Try.ntmps26
    go_wp2
    refine bodyPost_ret (v := .agg #[.func (.func 31) #[.pointer (some ⟨p, 0, none⟩)] #[], .func (.func 32) #[.pointer (some ⟨p, 0, none⟩)] #[]]) (by simp [results, Try.results26, go_sem]) rfl ⟨rfl, ?_⟩
    exact HB.out _ _
theorem w64 {x : Int} (h : -9223372036854775808 ≤ x ∧ x ≤ 9223372036854775807) : wrap64 x = x := by unfold wrap64; omega
/-- what a call that lays leaves -/
def LayP (w : World) (F : Nat → Prop) (p : Nat) (s : Po) (e : Ending) (w' : World) : Prop := e = .returned (.tuple #[]) ∧ IsP w' (nw F w w') p s ∧ Ch F w w'
set_option maxHeartbeats 2000000 in
theorem replace_any (w : World) (F : Nat → Prop) (p : Nat) (s : Po) (h : IsP w F p s) (m : ByteArray) (t : Int) :
    Calls Try.prog 29 #[.pointer (some ⟨p, 0, none⟩), .string m, .int .i64 t] w (LayP w F p { s with l := [m], sent := t }) := by
  obtain ⟨q, cap, c0, c1, c2, c3, c4, c5, fz, _⟩ := h.cells
  have hlt := h.ltp
  have f3 := fz 3
  have f4 := fz 4
  clear fz
  have H : Hid (LayP w F p { s with l := [m], sent := t } (.returned (.tuple #[])) (((w.setCell ⟨p, 3, none⟩ (.slice (some ⟨w.heap.size, 0, none⟩) 1 1)).setCell ⟨p, 4, none⟩ (.int .i64 t)).alloc (.cells #[.string m] 9))) := Lib.hid (by
    obtain ⟨hF, v, h1, h2, h3⟩ := h
    have hs : ((w.setCell ⟨p, 3, none⟩ (.slice (some ⟨w.heap.size, 0, none⟩) 1 1)).setCell ⟨p, 4, none⟩ (.int .i64 t)).heap.size = w.heap.size := by simp [World.setCell]
    refine ⟨rfl, ⟨.inl hF, .slice (some ⟨w.heap.size, 0, none⟩) 1 1, block_alloc (block_setCell (block_setCell h1)) _, ⟨rfl, .inr ⟨w.heap.size, 1, #[.string m], rfl, Nat.zero_le _, by have := block_new ((w.setCell ⟨p, 3, none⟩ (.slice (some ⟨w.heap.size, 0, none⟩) 1 1)).setCell ⟨p, 4, none⟩ (.int .i64 t)) (.cells #[.string m] 9); rw [hs] at this; exact this, Nat.le_refl _, by unfold maxLen; omega, rfl, rfl⟩⟩, fun j hj => ?_⟩, (((Ch.refl F w).setCell hF _ _).setCell hF _ _).then_below ((Below.refl _ _).alloc (Nat.le_refl _) _)⟩
    injection hj with hj
    subst hj
    exact .inr ⟨Nat.le_refl _, by show w.heap.size < _; rw [World.size_alloc, hs]; omega⟩)
  clear h
  go_enter Try.func29, Try.ntmps29
  go_wp2
  go_end0
  exact H.out
theorem show_any (w : World) (F : Nat → Prop) (p : Nat) (s : Po) (h : IsP w F p s) (m : ByteArray) (l : List ByteArray) (hl : s.l = m :: l) (t : Int) (ht : okT t) (hs : okT s.sent) :
    Calls Try.prog 30 #[.pointer (some ⟨p, 0, none⟩), .int .i64 t] w fun e w' => e = .returned (.tuple #[.string m, .int .i64 (max (t - s.sent) 0)]) ∧ Below w.heap.size w w' := by
  obtain ⟨q, cap, c0, c1, c2, c3, c4, c5, fz, ho, _⟩ := h.cells
  obtain ⟨q', cap', e, hq⟩ := own_slice ho
  injection e with e1 e2 e3
  subst e1
  obtain ⟨g, rfl, hc⟩ := hq (by rw [hl]; simp)
  have d0 := hc 0 _ (str_get s.l 0 (by rw [hl]; simp))
  have e0 : s.l.getD 0 ByteArray.empty = m := by rw [hl]; rfl
  rw [e0] at d0
  have n1 : 0 < s.l.length := by rw [hl]; simp
  generalize s.l.length = n at *
  have n2 : (0 : Int) < (n : Int) := by omega
  generalize s.sent = x at *
  have q1 : IntKind.i64.wrap (t - x) = t - x := IntWalk.i64_in _ (by unfold okT at ht hs; omega)
  have q2 : wrap64 (t - x) = t - x := w64 (by unfold okT at ht hs; omega)
  have HB : Hid (∀ k, Below w.heap.size w (w.drewN k)) := Lib.hid fun k => below_drewN (Below.refl _ w) k
  have d1 : w.cell? ⟨p, 3, none⟩ = some (.slice (some ⟨g, 0, none⟩) n cap) := c3
  clear fz ho hc e2 e3 hl e0 h ht hs c0 c1 c2 c5 c3
  go_enter Try.func30, Try.ntmps30
  go_wp2
  go_quiet (fail)
  go_wp2
  go_ret2
  exact ⟨rfl, HB.out _⟩
/-- what is known when a message has been laid behind the others -/
structure QuP (w : World) (F : Nat → Prop) (p : Nat) (s : Po) (m : ByteArray) (v' : Value) (W' : World) : Prop where
  cell : W'.cell? ⟨p, 3, none⟩ = some v' ∨ True
  c3 : ∃ u, W'.cell? ⟨p, 3, none⟩ = some u ∧ u.oneCell' = true
  f3 : W'.frozen? ⟨p, 3, none⟩ = false
  done : LayP w F p { s with l := s.l ++ [m] } (.returned (.tuple #[])) (W'.setCell ⟨p, 3, none⟩ v')
theorem qu_run (w : World) (F : Nat → Prop) (p : Nat) (s : Po) (h : IsP w F p s) (m : ByteArray) (hl : s.l.length ≤ 8) {q : Option Addr} {cap : Nat} (c3 : w.cell? ⟨p, 3, none⟩ = some (.slice q s.l.length cap)) (k : Nat) :
    ∃ q' n' cap' W', (Builtin.append_ #[45, 45] 45 #[.slice q s.l.length cap, .slice (some ⟨w.heap.size, 0, none⟩) 1 1]).run Try.prog ((w.drewN k).alloc (.cells #[.string m] 9)) = .ok (.slice q' n' cap') W' ∧ QuP w F p s m (.slice q' n' cap') W' := by
  obtain ⟨i9, hi, hz0, hz1, hz2⟩ := info_parts Try.info9
  obtain ⟨hF, v, h1, h2, h3⟩ := h
  have hv : v = .slice q s.l.length cap := by
    rw [cell_of_row _ _ _ _ _ _ h1] at c3; injection c3
  subst hv
  obtain ⟨W, hW⟩ : ∃ W, W = (w.drewN k).alloc (.cells #[.string m] 9) := ⟨_, rfl⟩
  have hb : Below w.heap.size w W := by rw [hW]; exact (below_drewN (Below.refl _ w) k).alloc (Nat.le_refl _) _
  have hn : W.heap[w.heap.size]? = some (.cells #[.string m] 9 (0, 0)) := by rw [hW]; exact block_new (w.drewN k) _
  have ho : W.ownsRow 0 9 1 (.slice q s.l.length cap) s.l.length (s.l.map .string) := own_below h2 hb
  obtain ⟨v', W', hr, hown, hgr, _, hob⟩ := run_append_own_at (P := Try.prog) (w := W) 0 45 45 9 i9 (.string ByteArray.empty) 1 16 Try.underlying45 hi hz0 hz1 hz2 rfl (by decide) _ _ _ ho ⟨w.heap.size, 0, none⟩ 1 1 [.string m] rfl (by
    intro j u hu
    rw [addr_at, Nat.zero_add, cell_of_row _ _ _ _ _ _ hn]
    rw [← hu]; exact (List.getElem?_toArray ..)) (by intro u hu; simp at hu; subst hu; rfl) (by unfold maxLen; omega) (by omega) (Nat.zero_le _)
  obtain ⟨q', cap', hv', _⟩ := own_slice hown
  subst hv'
  rw [hW] at hr
  have hpW : W.heap[p]? = _ := (hb.block p (block_lt h1)).trans h1
  have hne : ∀ j, (Value.slice q s.l.length cap).ownBlock = some j → p ≠ j := fun j hj => TyB.ne (w := w) ⟨_, _, h1⟩ (own_ty h2 j hj).1 (by decide)
  have hp' : W'.heap[p]? = _ := (hgr.block p (Nat.lt_of_lt_of_le (block_lt h1) hb.size) (fun e => hne p e.symm rfl)).trans hpW
  have hlt : W.heap.size = w.heap.size + 1 := by rw [hW, World.size_alloc]; rfl
  refine ⟨q', _, cap', W', hr, .inr trivial, ⟨_, by rw [cell_of_row _ _ _ _ _ _ hp']; rfl, rfl⟩, block_free hp', rfl, ?_, ?_⟩
  · have hs : (W'.setCell ⟨p, 3, none⟩ (.slice q' (s.l.length + 1) cap')).heap.size = W'.heap.size := by simp [World.setCell]
    refine ⟨.inl hF, _, block_setCell hp', ?_, fun j hj => ?_⟩
    · rw [show (s.l ++ [m]).length = s.l.length + 1 by simp, List.map_append]
      exact own_keep hown fun j hj ht => block_setCell_other (x := ⟨p, 3, none⟩) (TyB.ne ht ⟨_, _, hp'⟩ (by decide))
    · rcases hob with e | e
      · rw [e] at hj; exact .inl (h3 j hj)
      · rw [e] at hj; injection hj with hj; subst hj
        refine .inr ⟨by omega, ?_⟩
        rw [hs]
        exact (own_ty hown W.heap.size e).1.lt
  · refine (Ch.grown (Ch.of_below hb : Ch F w W) hgr (fun j hj => .inl (h3 j hj))).setCell hF _ _
set_option maxHeartbeats 2000000 in
theorem queue_any (w : World) (F : Nat → Prop) (p : Nat) (s : Po) (h : IsP w F p s) (m : ByteArray) (t : Int) (hl : s.l.length ≤ s.dep) (hd : s.dep ≤ 8) (hb : s.lost < 4611686018427387904) :
    Calls Try.prog 31 #[.pointer (some ⟨p, 0, none⟩), .string m, .int .i64 t] w (LayP w F p (if s.l.length = s.dep then { s with lost := s.lost + 1 } else { s with l := s.l ++ [m] })) := by
  obtain ⟨q, cap, c0, c1, c2, c3, c4, c5, fz, ho, _⟩ := h.cells
  have hlt := h.ltp
  have f3 := fz 3
  have f5 := fz 5
  clear fz
  by_cases a : s.l.length = s.dep
  · rw [if_pos a]
    have H : Hid (∀ k, LayP w F p { s with lost := s.lost + 1 } (.returned (.tuple #[])) ((w.drewN k).setCell ⟨p, 5, none⟩ (.int .i64 ((s.lost : Int) + 1)))) := Lib.hid fun k => by
      obtain ⟨hF, v, h1, h2, h3⟩ := h
      have hs : ((w.drewN k).setCell ⟨p, 5, none⟩ (.int .i64 ((s.lost : Int) + 1))).heap.size = w.heap.size := by simp [World.setCell]
      refine ⟨rfl, ⟨.inl hF, v, block_setCell (w := w.drewN k) h1, own_keep h2 fun j hj ht => block_setCell_other (w := w.drewN k) (x := ⟨p, 5, none⟩) (TyB.ne ht ⟨_, _, h1⟩ (by decide)), fun j hj => .inl (h3 j hj)⟩, (Ch.of_below (below_drewN (Below.refl _ w) k)).setCell hF _ _⟩
    have q1 : IntKind.i64.wrap ((s.lost : Int) + 1) = (s.lost : Int) + 1 := IntWalk.i64_in _ (by omega)
    have q2 : wrap64 ((s.lost : Int) + 1) = (s.lost : Int) + 1 := w64 (by omega)
    have aI : (((s.l.length : Nat) : Int) == (s.dep : Int)) = true := by rw [a]; simp
    clear h ho hb
    go_enter Try.func31, Try.ntmps31
    go_wp2
    go_quiet (fail)
    go_wp2
    first | go_end0 | refine bodyPost_ret (results_none rfl _ _ _) rfl ?_
    exact H.out _
  · rw [if_neg a]
    have HK : Hid (∀ k, ∃ q' n' cap' W', (Builtin.append_ #[45, 45] 45 #[.slice q s.l.length cap, .slice (some ⟨w.heap.size, 0, none⟩) 1 1]).run Try.prog ((w.drewN k).alloc (.cells #[.string m] 9)) = .ok (.slice q' n' cap') W' ∧ QuP w F p s m (.slice q' n' cap') W') := Lib.hid fun k => qu_run w F p s h m (by omega) c3 k
    have aI : (((s.l.length : Nat) : Int) == (s.dep : Int)) = false := by simp; omega
    clear h ho hb a hl hd
    generalize s.l.length = n at *
    go_enter Try.func31, Try.ntmps31
    go_wp2
    go_quiet (fail)
    go_wp2_with (at_builtin; obtain ⟨q', n', cap', W', hr, hq⟩ := HK.out _; refine wpList_app rfl (.tmp 27) (.tmp 29) 45 rfl _ _ _ _ rfl rfl hr ?_; obtain ⟨u3, x3, o3⟩ := hq.c3; have y3 := hq.f3; have HQ := Lib.hid hq.done; clear hq)
    first | go_end0 | refine bodyPost_ret (results_none rfl _ _ _) rfl ?_
    exact HQ.out
end Go.Proofs.Ytolcdfkkdhkpfaa
