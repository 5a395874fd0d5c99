/- A port's calls Send, Receive, Clear, Len: what they return, and what they leave. No conditions. -/
import Derived.Test.YtolcdfkkdhkpfaaPor
namespace Go.Proofs.Ytolcdfkkdhkpfaa
open Go.RowKit Go.Maps Go.Sort Go.Lib
set_option linter.unusedVariables false
set_option linter.unusedSimpArgs false

def TakP (w : World) (F : Nat → Prop) (p : Nat) (v : Value) (s : Po) (e : Ending) (w' : World) : Prop := e = .returned v ∧ IsP w' (nw F w w') p s ∧ Ch F w w'
theorem nw_trans {F : Nat → Prop} {w w1 w2 : World} (h1 : w.heap.size ≤ w1.heap.size) (h2 : w1.heap.size ≤ w2.heap.size) : ∀ k, nw (nw F w w1) w1 w2 k → nw F w w2 k := by
  intro k h
  rcases h with (h | h) | h
  · exact .inl h
  · exact .inr ⟨h.1, by omega⟩
  · exact .inr ⟨by omega, h.2⟩
theorem nw_gr (F : Nat → Prop) (w w' : World) : Gr F (nw F w w') w w' := fun k h => h
theorem ch_trans {F : Nat → Prop} {w w1 w2 : World} (h : Ch F w w1) (k : Ch (nw F w w1) w1 w2) : Ch F w w2 := h.trans (nw_gr F w w1) k
set_option maxHeartbeats 2000000 in
theorem take_any (w : World) (F : Nat → Prop) (p : Nat) (s : Po) (h : IsP w F p s) (m : ByteArray) (l : List ByteArray) (hl : s.l = m :: l) (t : Int) :
    Calls Try.prog 32 #[.pointer (some ⟨p, 0, none⟩), .int .i64 t] w (TakP w F p (.tuple #[.string m, .int .i64 (s.lost : Int)]) { s with l := l, lost := 0 }) := by
  obtain ⟨q, cap, c0, c1, c2, c3, c4, c5, fz, ho, hoF⟩ := h.cells
  have f3 := fz 3
  have f5 := fz 5
  clear fz
  obtain ⟨q', cap', e, hq⟩ := own_slice ho
  injection e with e1 e2 e3
  subst e1
  obtain ⟨g, rfl, hc⟩ := hq (by rw [hl]; simp)
  have d0 := hc 0 _ (str_get s.l 0 (by rw [hl]; simp))
  have e0 : s.l.getD 0 ByteArray.empty = m := by rw [hl]; rfl
  rw [e0] at d0
  have n1 : 0 < s.l.length := by rw [hl]; simp
  have n2 : (0 : Int) < (s.l.length : Int) := by omega
  have HK : Hid (∀ k, Calls Try.prog 34 #[.slice (some ⟨g, 0, none⟩) s.l.length cap, .int .i64 0, .int .i64 1] (w.drewN k) fun e w' => e = .returned (.slice (some ⟨g, 0, none⟩) l.length cap) ∧ w'.cell? ⟨p, 3, none⟩ = some (.slice (some ⟨g, 0, none⟩) s.l.length cap) ∧ w'.cell? ⟨p, 5, none⟩ = some (.int .i64 (s.lost : Int)) ∧ (∀ o, w'.frozen? ⟨p, o, none⟩ = false) ∧
      Hid (TakP w F p (.tuple #[.string m, .int .i64 (s.lost : Int)]) { s with l := l, lost := 0 } (.returned (.tuple #[.string m, .int .i64 (s.lost : Int)])) ((w'.setCell ⟨p, 3, none⟩ (.slice (some ⟨g, 0, none⟩) l.length cap)).setCell ⟨p, 5, none⟩ (.int .i64 0)))) := Lib.hid fun k => by
    obtain ⟨hF, v, h1, h2, h3⟩ := h
    have hv : v = .slice (some ⟨g, 0, none⟩) s.l.length cap := by
      rw [cell_of_row _ _ _ _ _ _ h1] at c3; injection c3
    subst hv
    have hb := below_drewN (Below.refl w.heap.size w) k
    rw [hl] at h2 h3 ⊢
    refine (del_any (w.drewN k) (some ⟨g, 0, none⟩) cap m l F (own_below h2 hb) h3).mono ?_
    rintro e w' ⟨rfl, k1, k2, k3⟩
    have hp : w'.heap[p]? = _ := (k3.block p (block_lt h1) (fun x => absurd rfl (TyB.ne (w := w) ⟨_, _, h1⟩ x.2 (by decide)))).trans h1
    rw [hl] at hp
    refine ⟨rfl, by rw [cell_of_row _ _ _ _ _ _ hp]; rfl, by rw [cell_of_row _ _ _ _ _ _ hp]; rfl, fun o => block_free hp, Lib.hid ⟨rfl, ⟨.inl hF, _, block_setCell (block_setCell hp), own_keep k1 fun j hj ht => ?_, fun j hj => .inl (k2 j hj).1⟩, ?_⟩⟩
    · have hpj : j ≠ p := TyB.ne ht ⟨_, _, hp⟩ (by decide)
      rw [block_setCell_other (x := ⟨p, 5, none⟩) hpj, block_setCell_other (x := ⟨p, 3, none⟩) hpj]
    · have k4 : Ch F w w' := ⟨k3.os, k3.tape, k3.output, k3.size, fun j hj hn => k3.block j hj (fun x => hn x.1)⟩
      exact (k4.setCell hF _ _).setCell hF _ _
  have HL : Hid (s.l.length = l.length + 1) := Lib.hid (by rw [hl]; rfl)
  clear e2 e3 hq hc e0 hl ho hoF h c0 c1 c2 c4
  generalize s.l.length = n at *
  generalize (s.lost : Int) = x at *
  go_enter Try.func32, Try.ntmps32
  go_wp2
  go_quiet (fail)
  go_wp2_with (go_at_call 34; refine (HK.out _).mono ?_; rintro e w1 ⟨rfl, x3, x5, xf, HF⟩; have y3 := xf 3; have y5 := xf 5; clear xf)
  go_ret2
  exact HF.out
theorem field0 (f g : Nat) (p : Nat) (W : World) : (Instr.field 59 (.agg #[.func (.func f) #[.pointer (some ⟨p, 0, none⟩)] #[], .func (.func g) #[.pointer (some ⟨p, 0, none⟩)] #[]]) 0).run Try.prog W = .ok (.func (.func f) #[.pointer (some ⟨p, 0, none⟩)] #[]) W := by kernel_rfl
theorem field1 (f g : Nat) (p : Nat) (W : World) : (Instr.field 59 (.agg #[.func (.func f) #[.pointer (some ⟨p, 0, none⟩)] #[], .func (.func g) #[.pointer (some ⟨p, 0, none⟩)] #[]]) 1).run Try.prog W = .ok (.func (.func g) #[.pointer (some ⟨p, 0, none⟩)] #[]) W := by kernel_rfl
def sendE (s : Po) (m : ByteArray) (t : Int) : Int := if okT t then (if s.size < (m.size : Int) then 141 else 0) else 1
def sendS (s : Po) (m : ByteArray) (t : Int) : Po := if sendE s m t = 0 then (if s.kind = 0 then { s with l := [m], sent := t } else if s.l.length = s.dep then { s with lost := s.lost + 1 } else { s with l := s.l ++ [m] }) else s
theorem sclone_any (w : World) (m : ByteArray) (h : m.size ≤ 281474976710656) : Calls Try.prog 27 #[.string m] w fun e w' => e = .returned (.string m) ∧ Below w.heap.size w w' := by
  have K := Lib.hid (Try.stringslite_Clone m w h)
  clear h
  go_enter Try.func27, Try.ntmps27
  go_wp2_with (go_at_call 33; refine K.out.mono ?_; rintro e w1 ⟨rfl, hb⟩)
  go_ret
  exact ⟨rfl, hb⟩
set_option maxHeartbeats 2000000 in
theorem send_any (w : World) (F : Nat → Prop) (p : Nat) (s : Po) (h : IsP w F p s) (m : ByteArray) (t : Int) (hk : s.ok) (hb : s.lost < 4611686018427387904) :
    Calls Try.prog 12 #[.pointer (some ⟨p, 0, none⟩), .string m, .int .i64 t] w (TakP w F p (.int .i64 (sendE s m t)) (sendS s m t)) := by
  have k25 := isTick_any w t
  have H0 : Hid (TakP w F p (.int .i64 (sendE s m t)) s (.returned (.int .i64 (sendE s m t))) w) := Lib.hid ⟨rfl, h.mono fun k _ hk => .inl hk, Ch.refl _ _⟩
  by_cases a : okT t
  · rw [decide_eq_true a] at k25
    obtain ⟨q, cap, c0, c1, _⟩ := h.cells
    by_cases b : s.size < (m.size : Int)
    · have e : sendE s m t = 141 := by unfold sendE; rw [if_pos a, if_pos b]
      have e2 : sendS s m t = s := by unfold sendS; rw [e, if_neg (by decide)]
      rw [e] at H0
      rw [e2, e]
      clear e e2 a hb h
      generalize s.size = z at *
      go_enter Try.func12, Try.ntmps12
      go_wp2_with (go_at_call 25; refine k25.mono ?_; rintro e _ ⟨rfl, rfl⟩)
      go_ret
      exact H0.out
    · have e : sendE s m t = 0 := by unfold sendE; rw [if_pos a, if_neg b]
      have K26 : Hid (Calls Try.prog 26 #[.pointer (some ⟨p, 0, none⟩)] w fun e w' => e = .returned (deeV2 p s.kind) ∧ Below w.heap.size w w') := Lib.hid (deeds_any w F p s h)
      have K27 : Hid (∀ W, Calls Try.prog 27 #[.string m] W fun e w' => e = .returned (.string m) ∧ Below W.heap.size W w') := Lib.hid fun W => sclone_any W m (by have := hk.size; omega)
      rw [e]
      unfold sendS
      rw [e, if_pos rfl]
      by_cases z : s.kind = 0
      · rw [if_pos z]
        have hfd := field0 29 30 p
        have d2 : deeV2 p s.kind = .agg #[.func (.func 29) #[.pointer (some ⟨p, 0, none⟩)] #[], .func (.func 30) #[.pointer (some ⟨p, 0, none⟩)] #[]] := by unfold deeV2; rw [if_pos z]
        rw [d2] at K26
        have K : Hid (∀ W, Below w.heap.size w W → Calls Try.prog 29 #[.pointer (some ⟨p, 0, none⟩), .string m, .int .i64 t] W fun e w' => e = .returned (.tuple #[]) ∧ Hid (TakP w F p (.int .i64 0) { s with l := [m], sent := t } (.returned (.int .i64 0)) w')) := Lib.hid fun W hW => (replace_any W F p s (h.below hW) m t).mono fun e w' ⟨x, y, z⟩ => ⟨x, Lib.hid ⟨rfl, y.mono fun k _ hk => nw_trans hW.size z.size k (hk.imp .inl id), ch_trans (Ch.of_below hW) ⟨z.os, z.tape, z.output, z.size, fun k h1 h2 => z.block k h1 (fun x => h2 (.inl x))⟩⟩⟩
        clear e a hb h H0 hk d2
        go_enter Try.func12, Try.ntmps12
        go_wp2_with (first
          | (go_at_call 25; refine k25.mono ?_; rintro e _ ⟨rfl, rfl⟩)
          | (go_at_call 26; refine K26.out.mono ?_; rintro e w1 ⟨rfl, hb⟩; have H1 := Lib.hid hb; clear hb)
          | (go_at_call 27; refine (K27.out _).mono ?_; rintro e w2 ⟨rfl, hb⟩; have H2 := Lib.hid (H1.out.trans (hb.mono H1.out.size)); clear hb)
          | (go_at_call 29; refine (K.out _ H2.out).mono ?_; rintro e w3 ⟨rfl, H3⟩))
        go_ret
        exact H3.out
      · rw [if_neg z]
        have hfd := field0 31 32 p
        have d2 : deeV2 p s.kind = .agg #[.func (.func 31) #[.pointer (some ⟨p, 0, none⟩)] #[], .func (.func 32) #[.pointer (some ⟨p, 0, none⟩)] #[]] := by unfold deeV2; rw [if_neg z]
        rw [d2] at K26
        generalize hS : (if s.l.length = s.dep then { s with lost := s.lost + 1 } else { s with l := s.l ++ [m] } : Po) = S
        have K : Hid (∀ W, Below w.heap.size w W → Calls Try.prog 31 #[.pointer (some ⟨p, 0, none⟩), .string m, .int .i64 t] W fun e w' => e = .returned (.tuple #[]) ∧ Hid (TakP w F p (.int .i64 0) S (.returned (.int .i64 0)) w')) := Lib.hid fun W hW => by
          have := queue_any W F p s (h.below hW) m t hk.len hk.dep.2 hb
          rw [hS] at this
          exact this.mono fun e w' ⟨x, y, z⟩ => ⟨x, Lib.hid ⟨rfl, y.mono fun k _ hk => nw_trans hW.size z.size k (hk.imp .inl id), ch_trans (Ch.of_below hW) ⟨z.os, z.tape, z.output, z.size, fun k h1 h2 => z.block k h1 (fun x => h2 (.inl x))⟩⟩⟩
        clear e a hb h H0 hk hS d2
        go_enter Try.func12, Try.ntmps12
        go_wp2_with (first
          | (go_at_call 25; refine k25.mono ?_; rintro e _ ⟨rfl, rfl⟩)
          | (go_at_call 26; refine K26.out.mono ?_; rintro e w1 ⟨rfl, hb⟩; have H1 := Lib.hid hb; clear hb)
          | (go_at_call 27; refine (K27.out _).mono ?_; rintro e w2 ⟨rfl, hb⟩; have H2 := Lib.hid (H1.out.trans (hb.mono H1.out.size)); clear hb)
          | (go_at_call 31; refine (K.out _ H2.out).mono ?_; rintro e w3 ⟨rfl, H3⟩))
        go_ret
        exact H3.out
  · have e : sendE s m t = 1 := by unfold sendE; rw [if_neg a]
    have e2 : sendS s m t = s := by unfold sendS; rw [e, if_neg (by decide)]
    rw [decide_eq_false a] at k25
    rw [e] at H0
    rw [e2, e]
    clear e e2 a hb h
    go_enter Try.func12, Try.ntmps12
    go_wp2_with (go_at_call 25; refine k25.mono ?_; rintro e _ ⟨rfl, rfl⟩)
    go_ret
    exact H0.out
end Go.Proofs.Ytolcdfkkdhkpfaa
