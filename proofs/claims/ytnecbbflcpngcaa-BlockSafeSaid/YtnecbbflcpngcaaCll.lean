/- Changes that are counted, and why a call on a disk is refused. No conditions. -/
import Derived.Test.YtnecbbflcpngcaaCal
namespace Go.Proofs.Ytnecbbflcpngcaa
open Go.RowKit Go.Maps
set_option maxRecDepth 20000
set_option linter.unusedVariables false

set_option maxHeartbeats 1000000 in
theorem change_any (F : Nat → Prop) (p : Nat) (S : St) (w : World) (h : IsD w F p S) :
    Calls Try.prog 77 #[.pointer (some ⟨p, 0, none⟩)] w fun e w' => e = .returned (.int .i64 S.change.2) ∧ To F w w' p S.change.1 := by
  have hI := h
  obtain ⟨sb, cap, mb, cv, hd, hc, h1, h2, h3⟩ := h
  obtain ⟨c0, c1, c2, c3, c4, hf⟩ := hd.cells
  have f3 := hf 3
  have ha := hd.ok.armed
  unfold St.change
  by_cases a0 : S.armed = 0
  · rw [if_pos a0]
    have HI := Lib.hid hI
    clear hd hc hI hf
    rw [a0] at c3
    go_enter Try.func77, Try.ntmps77
    go_wp2
    go_ret
    exact ⟨rfl, To.refl HI.out⟩
  · rw [if_neg a0]
    obtain ⟨m, hm⟩ : ∃ m, m = S.armed - 1 := ⟨_, rfl⟩
    have d1 := hd.set3 m (by omega)
    obtain ⟨c0', c1', c2', c3', c4', hf'⟩ := d1.cells
    have i1 : IsD (w.setCell ⟨p, 3, none⟩ (.int .i64 (m : Int))) F p { S with armed := m } := ⟨sb, cap, mb, cv, d1, hc.setCell (fun k hk => hk.2.1) _, h1, h2, h3⟩
    have hch : Ch F w (w.setCell ⟨p, 3, none⟩ (.int .i64 (m : Int))) := (Ch.refl F w).setCell h1 _ _
    have hcv := hc.setCell (a := ⟨p, 3, none⟩) (fun k hk => hk.2.1) (.int .i64 (m : Int))
    have ea : (S.armed : Int) - 1 = (m : Int) := by omega
    have ea0 : ¬ (S.armed : Int) = 0 := by omega
    have ew : wrap64 (m : Int) = (m : Int) := by unfold wrap64; omega
    by_cases a1 : S.armed = 1
    · rw [if_pos a1]
      have hm0 : m = 0 := by omega
      have kl := lose_any F p _ _ i1 _ cv S.ch hcv
      have HH := Lib.hid (And.intro hch (And.intro hm0 (And.intro hm hcv)))
      subst hm0
      clear hd hc hI hf ha hm hcv hch d1 c0' c1' c2' hf' i1 a0 ea0 ea ew
      rw [a1] at c3
      obtain ⟨w1, hw1⟩ : ∃ w1, w1 = w.setCell ⟨p, 3, none⟩ (.int .i64 ((0 : Nat) : Int)) := ⟨_, rfl⟩
      have hw1' : w.setCell ⟨p, 3, none⟩ (.int .i64 0) = w1 := hw1.symm
      rw [← hw1] at kl c3' c4'
      have c3z : w1.cell? ⟨p, 3, none⟩ = some (.int .i64 0) := c3'
      have HW := Lib.hid hw1
      clear hw1 c3'
      go_enter Try.func77, Try.ntmps77
      go_wp2_with (go_at_call 70; refine kl.mono ?_; rintro e w' ⟨rfl, g⟩)
      go_ret
      exact ⟨rfl, To.trans (Gr.refl F w w1) (by rw [HW.out]; exact HH.out.1) g⟩
    · rw [if_neg a1]
      have HH := Lib.hid (And.intro hch (And.intro i1 hm))
      have hm0 : (0 : Int) < (m : Int) := by omega
      have ea1 : 1 ≤ S.armed := by omega
      clear hd hc hI hf ha hm hcv hch d1 c0' c1' c2' hf' i1 a0
      generalize S.armed = A at *
      go_enter Try.func77, Try.ntmps77
      go_wp2
      go_ret
      refine ⟨rfl, F, ?_, Gr.refl _ _ _, HH.out.1⟩
      have := HH.out.2.1
      rw [HH.out.2.2] at this
      rw [HH.out.2.2]
      exact this
set_option maxHeartbeats 400000 in
theorem refusal95 (F : Nat → Prop) (p : Nat) (S : St) (w : World) (h : IsD w F p S) (r : Int) (a1 a2 a3 : Value) (hk : Calls Try.prog 95 #[a1, a2, a3] w fun e w' => e = .returned (.int .i64 r) ∧ Below w.heap.size w w') :
    Calls Try.prog 73 #[.pointer (some ⟨p, 0, none⟩), .func (.func 95) #[] #[a1, a2, a3]] w fun e w' => e = .returned (.int .i64 (if S.dead = true then 2 else r)) ∧ Below w.heap.size w w' := by
  obtain ⟨sb, cap, mb, cv, hd, hc, h1, h2, h3⟩ := h
  obtain ⟨c0, c1, c2, c3, c4, hf⟩ := hd.cells
  clear hd hc hf c0 c1 c3 c4
  by_cases hx : S.dead = true
  · rw [if_pos hx]
    rw [hx] at c2
    go_enter Try.func73, Try.ntmps73
    go_wp2
    go_ret
    exact ⟨rfl, Below.refl _ _⟩
  · rw [if_neg hx]
    rw [show S.dead = false by simpa using hx] at c2
    go_enter Try.func73, Try.ntmps73
    go_wp2_with (go_at_call 95; refine hk.mono ?_; rintro e w' ⟨rfl, hb⟩)
    go_ret
    exact ⟨rfl, hb⟩
set_option maxHeartbeats 400000 in
theorem refusal74 (F : Nat → Prop) (p : Nat) (S : St) (w : World) (h : IsD w F p S) (r : Int) (a1 a2 a3 : Value) (hk : Calls Try.prog 74 #[a1, a2, a3] w fun e w' => e = .returned (.int .i64 r) ∧ Below w.heap.size w w') :
    Calls Try.prog 73 #[.pointer (some ⟨p, 0, none⟩), .func (.func 74) #[] #[a1, a2, a3]] w fun e w' => e = .returned (.int .i64 (if S.dead = true then 2 else r)) ∧ Below w.heap.size w w' := by
  obtain ⟨sb, cap, mb, cv, hd, hc, h1, h2, h3⟩ := h
  obtain ⟨c0, c1, c2, c3, c4, hf⟩ := hd.cells
  clear hd hc hf c0 c1 c3 c4
  by_cases hx : S.dead = true
  · rw [if_pos hx]
    rw [hx] at c2
    go_enter Try.func73, Try.ntmps73
    go_wp2
    go_ret
    exact ⟨rfl, Below.refl _ _⟩
  · rw [if_neg hx]
    rw [show S.dead = false by simpa using hx] at c2
    go_enter Try.func73, Try.ntmps73
    go_wp2_with (go_at_call 74; refine hk.mono ?_; rintro e w' ⟨rfl, hb⟩)
    go_ret
    exact ⟨rfl, hb⟩
set_option maxHeartbeats 400000 in
theorem refusal90 (F : Nat → Prop) (p : Nat) (S : St) (w : World) (h : IsD w F p S) (r : Int) (a1 : Value) (hk : Calls Try.prog 90 #[a1] w fun e w' => e = .returned (.int .i64 r) ∧ Below w.heap.size w w') :
    Calls Try.prog 73 #[.pointer (some ⟨p, 0, none⟩), .func (.func 90) #[] #[a1]] w fun e w' => e = .returned (.int .i64 (if S.dead = true then 2 else r)) ∧ Below w.heap.size w w' := by
  obtain ⟨sb, cap, mb, cv, hd, hc, h1, h2, h3⟩ := h
  obtain ⟨c0, c1, c2, c3, c4, hf⟩ := hd.cells
  clear hd hc hf c0 c1 c3 c4
  by_cases hx : S.dead = true
  · rw [if_pos hx]
    rw [hx] at c2
    go_enter Try.func73, Try.ntmps73
    go_wp2
    go_ret
    exact ⟨rfl, Below.refl _ _⟩
  · rw [if_neg hx]
    rw [show S.dead = false by simpa using hx] at c2
    go_enter Try.func73, Try.ntmps73
    go_wp2_with (go_at_call 90; refine hk.mono ?_; rintro e w' ⟨rfl, hb⟩)
    go_ret
    exact ⟨rfl, hb⟩
set_option maxHeartbeats 400000 in
theorem refusal97 (F : Nat → Prop) (p : Nat) (S : St) (w : World) (h : IsD w F p S) (r : Int) (a1 a2 : Value) (hk : Calls Try.prog 97 #[a1, a2] w fun e w' => e = .returned (.int .i64 r) ∧ Below w.heap.size w w') :
    Calls Try.prog 73 #[.pointer (some ⟨p, 0, none⟩), .func (.func 97) #[] #[a1, a2]] w fun e w' => e = .returned (.int .i64 (if S.dead = true then 2 else r)) ∧ Below w.heap.size w w' := by
  obtain ⟨sb, cap, mb, cv, hd, hc, h1, h2, h3⟩ := h
  obtain ⟨c0, c1, c2, c3, c4, hf⟩ := hd.cells
  clear hd hc hf c0 c1 c3 c4
  by_cases hx : S.dead = true
  · rw [if_pos hx]
    rw [hx] at c2
    go_enter Try.func73, Try.ntmps73
    go_wp2
    go_ret
    exact ⟨rfl, Below.refl _ _⟩
  · rw [if_neg hx]
    rw [show S.dead = false by simpa using hx] at c2
    go_enter Try.func73, Try.ntmps73
    go_wp2_with (go_at_call 97; refine hk.mono ?_; rintro e w' ⟨rfl, hb⟩)
    go_ret
    exact ⟨rfl, hb⟩
set_option maxHeartbeats 400000 in
theorem why90 (w : World) (ba : Nat) (n : Int) (hc : w.cell? ⟨ba, 0, none⟩ = some (.int .i64 n)) (hn : -9223372036854775808 ≤ n ∧ n < 9223372036854775808) :
    Calls Try.prog 90 #[.pointer (some ⟨ba, 0, none⟩)] w fun e w' => e = .returned (.int .i64 (if n < 0 then 1 else 0)) ∧ Below w.heap.size w w' := by
  by_cases a : n < 0
  · rw [if_pos a]
    go_enter Try.func90, Try.ntmps90
    go_wp2
    go_ret
    exact ⟨rfl, Below.refl _ _⟩
  · rw [if_neg a]
    go_enter Try.func90, Try.ntmps90
    go_wp2
    go_ret
    exact ⟨rfl, Below.refl _ _⟩
set_option maxHeartbeats 400000 in
theorem why97 (F : Nat → Prop) (p : Nat) (S : St) (w : World) (h : IsD w F p S) (bd ba : Nat) (i : Int) (hd : w.cell? ⟨bd, 0, none⟩ = some (.pointer (some ⟨p, 0, none⟩))) (hc : w.cell? ⟨ba, 0, none⟩ = some (.int .i64 i)) (hi : -9223372036854775808 ≤ i ∧ i < 9223372036854775808) :
    Calls Try.prog 97 #[.pointer (some ⟨bd, 0, none⟩), .pointer (some ⟨ba, 0, none⟩)] w fun e w' => e = .returned (.int .i64 (if i < 0 ∨ (S.count : Int) ≤ i then 71 else 0)) ∧ Below w.heap.size w w' := by
  have k := place_any F p S i w h hi
  generalize (if i < 0 ∨ (S.count : Int) ≤ i then (71 : Int) else 0) = r at k ⊢
  go_enter Try.func97, Try.ntmps97
  go_wp2_with (go_at_call 75; refine k.mono ?_; rintro e w' ⟨rfl, rfl⟩)
  go_ret
  exact ⟨rfl, Below.refl _ _⟩
set_option maxHeartbeats 400000 in
theorem why74 (F : Nat → Prop) (p : Nat) (S : St) (w : World) (h : IsD w F p S) (bd ba bs : Nat) (i : Int) (s : ByteArray) (hd : w.cell? ⟨bd, 0, none⟩ = some (.pointer (some ⟨p, 0, none⟩))) (hc : w.cell? ⟨ba, 0, none⟩ = some (.int .i64 i)) (hs : w.cell? ⟨bs, 0, none⟩ = some (.string s)) (hi : -9223372036854775808 ≤ i ∧ i < 9223372036854775808) (hsz : s.size ≤ 281474976710656) :
    Calls Try.prog 74 #[.pointer (some ⟨bd, 0, none⟩), .pointer (some ⟨ba, 0, none⟩), .pointer (some ⟨bs, 0, none⟩)] w fun e w' => e = .returned (.int .i64 (if i < 0 ∨ (S.count : Int) ≤ i then 71 else if s.size ≠ 128 then 72 else 0)) ∧ Below w.heap.size w w' := by
  have k := place_any F p S i w h hi
  by_cases a : i < 0 ∨ (S.count : Int) ≤ i
  · rw [if_pos a] at k ⊢
    go_enter Try.func74, Try.ntmps74
    go_wp2_with (go_at_call 75; refine k.mono ?_; rintro e w' ⟨rfl, rfl⟩)
    go_ret
    exact ⟨rfl, Below.refl _ _⟩
  · rw [if_neg a] at k ⊢
    by_cases b : s.size = 128
    · rw [if_neg (by omega)]
      go_enter Try.func74, Try.ntmps74
      go_wp2_with (go_at_call 75; refine k.mono ?_; rintro e w' ⟨rfl, rfl⟩)
      go_ret
      exact ⟨rfl, Below.refl _ _⟩
    · rw [if_pos b]
      have b2 : ¬ (s.size : Int) = 128 := by omega
      go_enter Try.func74, Try.ntmps74
      go_wp2_with (go_at_call 75; refine k.mono ?_; rintro e w' ⟨rfl, rfl⟩)
      go_ret
      exact ⟨rfl, Below.refl _ _⟩
set_option maxHeartbeats 1000000 in
theorem why95 (F : Nat → Prop) (p : Nat) (S : St) (w : World) (h : IsD w F p S) (bf bn bd : Nat) (f n : Int) (hd : w.cell? ⟨bd, 0, none⟩ = some (.pointer (some ⟨p, 0, none⟩))) (hcf : w.cell? ⟨bf, 0, none⟩ = some (.int .i64 f)) (hcn : w.cell? ⟨bn, 0, none⟩ = some (.int .i64 n)) (hf : -9223372036854775808 ≤ f ∧ f < 9223372036854775808) (hn : -9223372036854775808 ≤ n ∧ n < 9223372036854775808) :
    Calls Try.prog 95 #[.pointer (some ⟨bf, 0, none⟩), .pointer (some ⟨bn, 0, none⟩), .pointer (some ⟨bd, 0, none⟩)] w fun e w' => e = .returned (.int .i64 (if f < 0 ∨ n < 0 ∨ (S.count : Int) - n < f then 71 else 0)) ∧ Below w.heap.size w w' := by
  have hS := h.ok.hi
  have kc : Hid (∀ m, Calls Try.prog 38 #[.pointer (some ⟨p, 0, none⟩)] (w.drewN m) fun e w' => e = .returned (.int .i64 (S.count : Int)) ∧ w' = w.drewN m) := fun m => (count_any F p S (w.drewN m) (h.below (below_drewN (Below.refl _ w) m))).mono fun _ _ q => ⟨q.1, q.2.symm⟩
  have hbl : ∀ m, Below w.heap.size w (w.drewN m) := fun m => below_drewN (Below.refl _ w) m
  have HB := Lib.hid hbl
  clear h hbl
  generalize S.count = c at *
  by_cases a : f < 0
  · rw [if_pos (.inl a)]
    have a' : decide (f < 0) = true := by simpa using a
    go_enter Try.func95, Try.ntmps95
    go_wp2
    go_quiet (fail)
    go_wp2
    go_ret
    exact ⟨rfl, HB.out _⟩
  · have a' : decide (f < 0) = false := by simpa using a
    by_cases b : n < 0
    · rw [if_pos (.inr (.inl b))]
      have b' : decide (n < 0) = true := by simpa using b
      go_enter Try.func95, Try.ntmps95
      go_wp2
      go_quiet (fail)
      go_wp2
      go_ret
      exact ⟨rfl, HB.out _⟩
    · have b' : decide (n < 0) = false := by simpa using b
      have e : IntKind.i64.wrap ((c : Int) - n) = (c : Int) - n := by rw [IntKind.wrap_i64]; omega
      have e2 : wrap64 ((c : Int) - n) = (c : Int) - n := by unfold wrap64; omega
      by_cases d : (c : Int) - n < f
      · rw [if_pos (.inr (.inr d))]
        go_enter Try.func95, Try.ntmps95
        go_wp2
        go_quiet ((go_at_call 38; exact Calls.quiet_of_same (kc.out _)))
        go_wp2
        go_ret
        exact ⟨rfl, HB.out _⟩
      · rw [if_neg (by omega)]
        go_enter Try.func95, Try.ntmps95
        go_wp2
        go_quiet ((go_at_call 38; exact Calls.quiet_of_same (kc.out _)))
        go_wp2
        go_ret
        exact ⟨rfl, HB.out _⟩
end Go.Proofs.Ytnecbbflcpngcaa
