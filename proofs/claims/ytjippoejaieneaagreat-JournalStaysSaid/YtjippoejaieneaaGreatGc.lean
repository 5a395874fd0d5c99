/- Gc: Cll Opr Rdf Flu Nwc Opa Lfn Mad in one text. What each asks of its input stands at its head. -/
import Derived.Test.YtjippoejaieneaaGreatGb
import Derived.Deep.RegionHeld3
import Derived.ProofKit
import Derived.OpenShut
import Derived.ShutString
import Derived.ChangeOld
import Derived.SizedLaws
import Derived.ChangeSlices
import Derived.Deep.Slices

/- Changes that are counted, and why a call on a disk is refused. No conditions. -/
namespace Go.Proofs.YtjippoejaieneaaGreat
open Go.RowKit Go.Maps
set_option maxRecDepth 20000
set_option linter.unusedVariables false

set_option maxHeartbeats 1000000 in
theorem change_any (F : Nat → Prop) (p : Nat) (S : St) (w : World) (h : IsD w F p S) :
    Calls Tryz.prog 143 #[.pointer (some ⟨p, 0, none⟩)] w fun e w' => e = .returned (.int .i64 S.change.2) ∧ To F w w' p S.change.1 := by
  have hI := h
  obtain ⟨sb, cap, mb, cv, hd, hc, h1, h2, h3⟩ := h
  obtain ⟨c0, c1, c2, c3, c4, hf⟩ := hd.cells
  have f3 := hf 3
  have ha := hd.ok.armed
  unfold St.change
  by_cases a0 : S.armed = 0
  · rw [if_pos a0]
    have HI := Lib.hid hI
    clear hd hc hI hf
    rw [a0] at c3
    go_enter Tryz.func143, Tryz.ntmps143
    go_wp2
    go_ret
    exact ⟨rfl, To.refl HI.out⟩
  · rw [if_neg a0]
    obtain ⟨m, hm⟩ : ∃ m, m = S.armed - 1 := ⟨_, rfl⟩
    have d1 := hd.set3 m (by omega)
    obtain ⟨c0', c1', c2', c3', c4', hf'⟩ := d1.cells
    have i1 : IsD (w.setCell ⟨p, 3, none⟩ (.int .i64 (m : Int))) F p { S with armed := m } := ⟨sb, cap, mb, cv, d1, hc.setCell (fun k hk => hk.2.1) _, h1, h2, h3⟩
    have hch : Ch F w (w.setCell ⟨p, 3, none⟩ (.int .i64 (m : Int))) := (Ch.refl F w).setCell h1 _ _
    have hcv := hc.setCell (a := ⟨p, 3, none⟩) (fun k hk => hk.2.1) (.int .i64 (m : Int))
    have ea : (S.armed : Int) - 1 = (m : Int) := by omega
    have ea0 : ¬ (S.armed : Int) = 0 := by omega
    have ew : wrap64 (m : Int) = (m : Int) := by unfold wrap64; omega
    by_cases a1 : S.armed = 1
    · rw [if_pos a1]
      have hm0 : m = 0 := by omega
      have kl := lose_any F p _ _ i1 _ cv S.ch hcv
      have HH := Lib.hid (And.intro hch (And.intro hm0 (And.intro hm hcv)))
      subst hm0
      clear hd hc hI hf ha hm hcv hch d1 c0' c1' c2' hf' i1 a0 ea0 ea ew
      rw [a1] at c3
      obtain ⟨w1, hw1⟩ : ∃ w1, w1 = w.setCell ⟨p, 3, none⟩ (.int .i64 ((0 : Nat) : Int)) := ⟨_, rfl⟩
      have hw1' : w.setCell ⟨p, 3, none⟩ (.int .i64 0) = w1 := hw1.symm
      rw [← hw1] at kl c3' c4'
      have c3z : w1.cell? ⟨p, 3, none⟩ = some (.int .i64 0) := c3'
      have HW := Lib.hid hw1
      clear hw1 c3'
      go_enter Tryz.func143, Tryz.ntmps143
      go_wp2_with (go_at_call 67; refine kl.mono ?_; rintro e w' ⟨rfl, g⟩)
      go_ret
      exact ⟨rfl, To.trans (Gr.refl F w w1) (by rw [HW.out]; exact HH.out.1) g⟩
    · rw [if_neg a1]
      have HH := Lib.hid (And.intro hch (And.intro i1 hm))
      have hm0 : (0 : Int) < (m : Int) := by omega
      have ea1 : 1 ≤ S.armed := by omega
      clear hd hc hI hf ha hm hcv hch d1 c0' c1' c2' hf' i1 a0
      generalize S.armed = A at *
      go_enter Tryz.func143, Tryz.ntmps143
      go_wp2
      go_ret
      refine ⟨rfl, F, ?_, Gr.refl _ _ _, HH.out.1⟩
      have := HH.out.2.1
      rw [HH.out.2.2] at this
      rw [HH.out.2.2]
      exact this
set_option maxHeartbeats 400000 in
theorem refusal142 (F : Nat → Prop) (p : Nat) (S : St) (w : World) (h : IsD w F p S) (r : Int) (a1 a2 a3 : Value) (hk : Calls Tryz.prog 142 #[a1, a2, a3] w fun e w' => e = .returned (.int .i64 r) ∧ Below w.heap.size w w') :
    Calls Tryz.prog 38 #[.pointer (some ⟨p, 0, none⟩), .func (.func 142) #[] #[a1, a2, a3]] w fun e w' => e = .returned (.int .i64 (if S.dead = true then 2 else r)) ∧ Below w.heap.size w w' := by
  obtain ⟨sb, cap, mb, cv, hd, hc, h1, h2, h3⟩ := h
  obtain ⟨c0, c1, c2, c3, c4, hf⟩ := hd.cells
  clear hd hc hf c0 c1 c3 c4
  by_cases hx : S.dead = true
  · rw [if_pos hx]
    rw [hx] at c2
    go_enter Tryz.func38, Tryz.ntmps38
    go_wp2
    go_ret
    exact ⟨rfl, Below.refl _ _⟩
  · rw [if_neg hx]
    rw [show S.dead = false by simpa using hx] at c2
    go_enter Tryz.func38, Tryz.ntmps38
    go_wp2_with (go_at_call 142; refine hk.mono ?_; rintro e w' ⟨rfl, hb⟩)
    go_ret
    exact ⟨rfl, hb⟩
set_option maxHeartbeats 400000 in
theorem refusal152 (F : Nat → Prop) (p : Nat) (S : St) (w : World) (h : IsD w F p S) (r : Int) (a1 a2 a3 : Value) (hk : Calls Tryz.prog 152 #[a1, a2, a3] w fun e w' => e = .returned (.int .i64 r) ∧ Below w.heap.size w w') :
    Calls Tryz.prog 38 #[.pointer (some ⟨p, 0, none⟩), .func (.func 152) #[] #[a1, a2, a3]] w fun e w' => e = .returned (.int .i64 (if S.dead = true then 2 else r)) ∧ Below w.heap.size w w' := by
  obtain ⟨sb, cap, mb, cv, hd, hc, h1, h2, h3⟩ := h
  obtain ⟨c0, c1, c2, c3, c4, hf⟩ := hd.cells
  clear hd hc hf c0 c1 c3 c4
  by_cases hx : S.dead = true
  · rw [if_pos hx]
    rw [hx] at c2
    go_enter Tryz.func38, Tryz.ntmps38
    go_wp2
    go_ret
    exact ⟨rfl, Below.refl _ _⟩
  · rw [if_neg hx]
    rw [show S.dead = false by simpa using hx] at c2
    go_enter Tryz.func38, Tryz.ntmps38
    go_wp2_with (go_at_call 152; refine hk.mono ?_; rintro e w' ⟨rfl, hb⟩)
    go_ret
    exact ⟨rfl, hb⟩
set_option maxHeartbeats 400000 in
theorem refusal39 (F : Nat → Prop) (p : Nat) (S : St) (w : World) (h : IsD w F p S) (r : Int) (a1 : Value) (hk : Calls Tryz.prog 39 #[a1] w fun e w' => e = .returned (.int .i64 r) ∧ Below w.heap.size w w') :
    Calls Tryz.prog 38 #[.pointer (some ⟨p, 0, none⟩), .func (.func 39) #[] #[a1]] w fun e w' => e = .returned (.int .i64 (if S.dead = true then 2 else r)) ∧ Below w.heap.size w w' := by
  obtain ⟨sb, cap, mb, cv, hd, hc, h1, h2, h3⟩ := h
  obtain ⟨c0, c1, c2, c3, c4, hf⟩ := hd.cells
  clear hd hc hf c0 c1 c3 c4
  by_cases hx : S.dead = true
  · rw [if_pos hx]
    rw [hx] at c2
    go_enter Tryz.func38, Tryz.ntmps38
    go_wp2
    go_ret
    exact ⟨rfl, Below.refl _ _⟩
  · rw [if_neg hx]
    rw [show S.dead = false by simpa using hx] at c2
    go_enter Tryz.func38, Tryz.ntmps38
    go_wp2_with (go_at_call 39; refine hk.mono ?_; rintro e w' ⟨rfl, hb⟩)
    go_ret
    exact ⟨rfl, hb⟩
set_option maxHeartbeats 400000 in
theorem refusal124 (F : Nat → Prop) (p : Nat) (S : St) (w : World) (h : IsD w F p S) (r : Int) (a1 a2 : Value) (hk : Calls Tryz.prog 124 #[a1, a2] w fun e w' => e = .returned (.int .i64 r) ∧ Below w.heap.size w w') :
    Calls Tryz.prog 38 #[.pointer (some ⟨p, 0, none⟩), .func (.func 124) #[] #[a1, a2]] w fun e w' => e = .returned (.int .i64 (if S.dead = true then 2 else r)) ∧ Below w.heap.size w w' := by
  obtain ⟨sb, cap, mb, cv, hd, hc, h1, h2, h3⟩ := h
  obtain ⟨c0, c1, c2, c3, c4, hf⟩ := hd.cells
  clear hd hc hf c0 c1 c3 c4
  by_cases hx : S.dead = true
  · rw [if_pos hx]
    rw [hx] at c2
    go_enter Tryz.func38, Tryz.ntmps38
    go_wp2
    go_ret
    exact ⟨rfl, Below.refl _ _⟩
  · rw [if_neg hx]
    rw [show S.dead = false by simpa using hx] at c2
    go_enter Tryz.func38, Tryz.ntmps38
    go_wp2_with (go_at_call 124; refine hk.mono ?_; rintro e w' ⟨rfl, hb⟩)
    go_ret
    exact ⟨rfl, hb⟩
set_option maxHeartbeats 400000 in
theorem why39 (w : World) (ba : Nat) (n : Int) (hc : w.cell? ⟨ba, 0, none⟩ = some (.int .i64 n)) (hn : -9223372036854775808 ≤ n ∧ n < 9223372036854775808) :
    Calls Tryz.prog 39 #[.pointer (some ⟨ba, 0, none⟩)] w fun e w' => e = .returned (.int .i64 (if n < 0 then 1 else 0)) ∧ Below w.heap.size w w' := by
  by_cases a : n < 0
  · rw [if_pos a]
    go_enter Tryz.func39, Tryz.ntmps39
    go_wp2
    go_ret
    exact ⟨rfl, Below.refl _ _⟩
  · rw [if_neg a]
    go_enter Tryz.func39, Tryz.ntmps39
    go_wp2
    go_ret
    exact ⟨rfl, Below.refl _ _⟩
set_option maxHeartbeats 400000 in
theorem why124 (F : Nat → Prop) (p : Nat) (S : St) (w : World) (h : IsD w F p S) (bd ba : Nat) (i : Int) (hd : w.cell? ⟨bd, 0, none⟩ = some (.pointer (some ⟨p, 0, none⟩))) (hc : w.cell? ⟨ba, 0, none⟩ = some (.int .i64 i)) (hi : -9223372036854775808 ≤ i ∧ i < 9223372036854775808) :
    Calls Tryz.prog 124 #[.pointer (some ⟨bd, 0, none⟩), .pointer (some ⟨ba, 0, none⟩)] w fun e w' => e = .returned (.int .i64 (if i < 0 ∨ (S.count : Int) ≤ i then 71 else 0)) ∧ Below w.heap.size w w' := by
  have k := place_any F p S i w h hi
  generalize (if i < 0 ∨ (S.count : Int) ≤ i then (71 : Int) else 0) = r at k ⊢
  go_enter Tryz.func124, Tryz.ntmps124
  go_wp2_with (go_at_call 125; refine k.mono ?_; rintro e w' ⟨rfl, rfl⟩)
  go_ret
  exact ⟨rfl, Below.refl _ _⟩
set_option maxHeartbeats 400000 in
theorem why152 (F : Nat → Prop) (p : Nat) (S : St) (w : World) (h : IsD w F p S) (bd ba bs : Nat) (i : Int) (s : ByteArray) (hd : w.cell? ⟨bd, 0, none⟩ = some (.pointer (some ⟨p, 0, none⟩))) (hc : w.cell? ⟨ba, 0, none⟩ = some (.int .i64 i)) (hs : w.cell? ⟨bs, 0, none⟩ = some (.string s)) (hi : -9223372036854775808 ≤ i ∧ i < 9223372036854775808) (hsz : s.size ≤ 281474976710656) :
    Calls Tryz.prog 152 #[.pointer (some ⟨bd, 0, none⟩), .pointer (some ⟨ba, 0, none⟩), .pointer (some ⟨bs, 0, none⟩)] w fun e w' => e = .returned (.int .i64 (if i < 0 ∨ (S.count : Int) ≤ i then 71 else if s.size ≠ 128 then 72 else 0)) ∧ Below w.heap.size w w' := by
  have k := place_any F p S i w h hi
  by_cases a : i < 0 ∨ (S.count : Int) ≤ i
  · rw [if_pos a] at k ⊢
    go_enter Tryz.func152, Tryz.ntmps152
    go_wp2_with (go_at_call 125; refine k.mono ?_; rintro e w' ⟨rfl, rfl⟩)
    go_ret
    exact ⟨rfl, Below.refl _ _⟩
  · rw [if_neg a] at k ⊢
    by_cases b : s.size = 128
    · rw [if_neg (by omega)]
      go_enter Tryz.func152, Tryz.ntmps152
      go_wp2_with (go_at_call 125; refine k.mono ?_; rintro e w' ⟨rfl, rfl⟩)
      go_ret
      exact ⟨rfl, Below.refl _ _⟩
    · rw [if_pos b]
      have b2 : ¬ (s.size : Int) = 128 := by omega
      go_enter Tryz.func152, Tryz.ntmps152
      go_wp2_with (go_at_call 125; refine k.mono ?_; rintro e w' ⟨rfl, rfl⟩)
      go_ret
      exact ⟨rfl, Below.refl _ _⟩
set_option maxHeartbeats 1000000 in
theorem why142 (F : Nat → Prop) (p : Nat) (S : St) (w : World) (h : IsD w F p S) (bf bn bd : Nat) (f n : Int) (hd : w.cell? ⟨bd, 0, none⟩ = some (.pointer (some ⟨p, 0, none⟩))) (hcf : w.cell? ⟨bf, 0, none⟩ = some (.int .i64 f)) (hcn : w.cell? ⟨bn, 0, none⟩ = some (.int .i64 n)) (hf : -9223372036854775808 ≤ f ∧ f < 9223372036854775808) (hn : -9223372036854775808 ≤ n ∧ n < 9223372036854775808) :
    Calls Tryz.prog 142 #[.pointer (some ⟨bf, 0, none⟩), .pointer (some ⟨bn, 0, none⟩), .pointer (some ⟨bd, 0, none⟩)] w fun e w' => e = .returned (.int .i64 (if f < 0 ∨ n < 0 ∨ (S.count : Int) - n < f then 71 else 0)) ∧ Below w.heap.size w w' := by
  have hS := h.ok.hi
  have kc : Hid (∀ m, Calls Tryz.prog 42 #[.pointer (some ⟨p, 0, none⟩)] (w.drewN m) fun e w' => e = .returned (.int .i64 (S.count : Int)) ∧ w' = w.drewN m) := fun m => (count_any F p S (w.drewN m) (h.below (below_drewN (Below.refl _ w) m))).mono fun _ _ q => ⟨q.1, q.2.symm⟩
  have hbl : ∀ m, Below w.heap.size w (w.drewN m) := fun m => below_drewN (Below.refl _ w) m
  have HB := Lib.hid hbl
  clear h hbl
  generalize S.count = c at *
  by_cases a : f < 0
  · rw [if_pos (.inl a)]
    have a' : decide (f < 0) = true := by simpa using a
    go_enter Tryz.func142, Tryz.ntmps142
    go_wp2
    go_quiet (fail)
    go_wp2
    go_ret
    exact ⟨rfl, HB.out _⟩
  · have a' : decide (f < 0) = false := by simpa using a
    by_cases b : n < 0
    · rw [if_pos (.inr (.inl b))]
      have b' : decide (n < 0) = true := by simpa using b
      go_enter Tryz.func142, Tryz.ntmps142
      go_wp2
      go_quiet (fail)
      go_wp2
      go_ret
      exact ⟨rfl, HB.out _⟩
    · have b' : decide (n < 0) = false := by simpa using b
      have e : IntKind.i64.wrap ((c : Int) - n) = (c : Int) - n := by rw [IntKind.wrap_i64]; omega
      have e2 : wrap64 ((c : Int) - n) = (c : Int) - n := by unfold wrap64; omega
      by_cases d : (c : Int) - n < f
      · rw [if_pos (.inr (.inr d))]
        go_enter Tryz.func142, Tryz.ntmps142
        go_wp2
        go_quiet ((go_at_call 42; exact Calls.quiet_of_same (kc.out _)))
        go_wp2
        go_ret
        exact ⟨rfl, HB.out _⟩
      · rw [if_neg (by omega)]
        go_enter Tryz.func142, Tryz.ntmps142
        go_wp2
        go_quiet ((go_at_call 42; exact Calls.quiet_of_same (kc.out _)))
        go_wp2
        go_ret
        exact ⟨rfl, HB.out _⟩
end Go.Proofs.YtjippoejaieneaaGreat

/- The calls on a disk: what each returns and what the disk is then. Conditions: strings are few enough for a machine. -/
namespace Go.Proofs.YtjippoejaieneaaGreat
open Go.RowKit Go.Maps
set_option maxRecDepth 20000
set_option linter.unusedVariables false

theorem cell_alloc {w : World} {a : Addr} {v : Value} (h : w.cell? a = some v) (o : Obj) : (w.alloc o).cell? a = some v := by
  have := block_lt_of_cell h
  rw [← h]; simp only [World.cell?, Below.heap_alloc w o a.block this]
theorem cell_below {w w' : World} {a : Addr} {v : Value} (h : w.cell? a = some v) (hb : Below w.heap.size w w') : w'.cell? a = some v := by
  have := block_lt_of_cell h
  rw [← h]; simp only [World.cell?, hb.block a.block this]
theorem cell_grown {w w' : World} {a : Addr} {v : Value} {mb : Nat} (h : w.cell? a = some v) (hm : ∃ es ck, w.heap[mb]? = some (.map es ck)) (hg : w.grownBy w' (some mb)) : w'.cell? a = some v := by
  have hl := block_lt_of_cell h
  have hne : a.block ≠ mb := fun e => by
    obtain ⟨es, ck, hm⟩ := hm
    simp [World.cell?, e, hm] at h
  rw [← h]; simp only [World.cell?, hg.block a.block hl (fun e => hne (Option.some.inj e))]
theorem cell_box (w : World) (v : Value) (t : TypeId) : (w.alloc (.cells #[v] t)).cell? ⟨w.heap.size, 0, none⟩ = some v := by
  rw [cell_of_row _ _ _ _ _ _ (block_new w _)]; rfl
set_option maxHeartbeats 1000000 in
theorem crash_any (F : Nat → Prop) (p : Nat) (S : St) (w : World) (h : IsD w F p S) (G : Nat → Prop) (v : Value) (ch : List Int) (hcv : CV w G v ch) :
    Calls Tryz.prog 32 #[.pointer (some ⟨p, 0, none⟩), v] w fun e w' => e = .returned (.int .i64 (S.crash ch).2) ∧ To F w w' p (S.crash ch).1 := by
  have k := lose_any F p S w h G v ch hcv
  have HI := Lib.hid h
  obtain ⟨q, n, cap, hv⟩ : ∃ q n cap, v = .slice q n cap := by obtain ⟨q, cap, e, _⟩ := hcv; exact ⟨_, _, _, e⟩
  obtain ⟨sb, cap0, mb, cv, hd, hc, h1, h2, h3⟩ := h
  obtain ⟨c0, c1, c2, c3, c4, hf⟩ := hd.cells
  clear hd hc hf c0 c1 c3 c4 hcv
  subst hv
  unfold St.crash
  by_cases hx : S.dead = true
  · rw [if_pos hx]
    rw [hx] at c2
    go_enter Tryz.func32, Tryz.ntmps32
    go_wp2
    go_ret
    exact ⟨rfl, To.refl HI.out⟩
  · rw [if_neg hx]
    rw [show S.dead = false by simpa using hx] at c2
    go_enter Tryz.func32, Tryz.ntmps32
    go_wp2_with (go_at_call 67; refine k.mono ?_; rintro e w' ⟨rfl, g⟩)
    go_ret
    exact ⟨rfl, g⟩
set_option maxHeartbeats 2000000 in
set_option maxRecDepth 20000 in
theorem write_any (F : Nat → Prop) (p : Nat) (S : St) (w : World) (h : IsD w F p S) (i : Int) (s : ByteArray) (hi : -9223372036854775808 ≤ i ∧ i < 9223372036854775808) (hsz : s.size ≤ 281474976710656) :
    Calls Tryz.prog 138 #[.pointer (some ⟨p, 0, none⟩), .int .i64 i, .string s] w fun e w' => e = .returned (.int .i64 (S.write i s.data.toList).2) ∧ To F w w' p (S.write i s.data.toList).1 := by
  obtain ⟨B, hB⟩ : ∃ B, B = w.heap.size := ⟨_, rfl⟩
  obtain ⟨w3, hw3⟩ : ∃ w3, w3 = ((w.alloc (.cells #[.pointer (some ⟨p, 0, none⟩)] 28)).alloc (.cells #[.int .i64 i] 3)).alloc (.cells #[.string s] 9) := ⟨_, rfl⟩
  have hb3 : Below w.heap.size w w3 := by subst hw3; exact (((Below.refl _ w).alloc (Nat.le_refl _) _).alloc (by simp) _).alloc (by simp; omega) _
  have k0 : w3.cell? ⟨B, 0, none⟩ = some (.pointer (some ⟨p, 0, none⟩)) := by subst hw3 hB; exact cell_alloc (cell_alloc (cell_box _ _ _) _) _
  have k1 : w3.cell? ⟨B + 1, 0, none⟩ = some (.int .i64 i) := by
    subst hw3 hB
    have := cell_box (w.alloc (.cells #[.pointer (some ⟨p, 0, none⟩)] 28)) (.int .i64 i) 3
    rw [show (w.alloc (.cells #[.pointer (some ⟨p, 0, none⟩)] 28)).heap.size = w.heap.size + 1 by simp] at this
    exact cell_alloc this _
  have k2 : w3.cell? ⟨B + 1 + 1, 0, none⟩ = some (.string s) := by
    subst hw3 hB
    have := cell_box ((w.alloc (.cells #[.pointer (some ⟨p, 0, none⟩)] 28)).alloc (.cells #[.int .i64 i] 3)) (.string s) 9
    rwa [show ((w.alloc (.cells #[.pointer (some ⟨p, 0, none⟩)] 28)).alloc (.cells #[.int .i64 i] 3)).heap.size = w.heap.size + 1 + 1 by simp] at this
  have i3 := h.below hb3
  have hwhy := refusal152 F p S w3 i3 _ _ _ _ (why152 F p S w3 i3 B (B + 1) (B + 1 + 1) i s k0 k1 k2 hi hsz)
  have hlt := h.lt
  have HH := Lib.hid (And.intro h (And.intro hb3 (And.intro k0 (And.intro k1 (And.intro k2 i3)))))
  have es : s.data.toList.length = s.size := baList s
  obtain ⟨r, hr⟩ : ∃ r, r = (if S.dead = true then (2 : Int) else if i < 0 ∨ (S.count : Int) ≤ i then 71 else if s.size ≠ 128 then 72 else 0) := ⟨_, rfl⟩
  rw [← hr] at hwhy
  have HR := Lib.hid hr
  have HY := Lib.hid hwhy
  have HW3 := Lib.hid hw3
  have HB := Lib.hid hB
  clear h hb3 k0 k1 k2 i3 hr hwhy hw3 hB
  by_cases hz : r = 0
  · subst hz
    have hrr := HR.out
    have q1 : ¬ S.dead = true := fun q => by rw [if_pos q] at hrr; omega
    rw [if_neg q1] at hrr
    have q2 : ¬ (i < 0 ∨ (S.count : Int) ≤ i) := fun q => by rw [if_pos q] at hrr; omega
    rw [if_neg q2] at hrr
    have q3 : s.size = 128 := by
      by_cases q : s.size = 128
      · exact q
      · rw [if_pos q] at hrr; omega
    have ewr : S.write i s.data.toList = (S.put i.toNat s.data.toList).change := by unfold St.write; rw [if_neg q1, if_neg q2, if_neg (by omega)]
    rw [ewr]
    obtain ⟨n, hn⟩ : ∃ n : Nat, i = (n : Int) := ⟨i.toNat, by omega⟩
    subst hn
    rw [Int.toNat_natCast]
    have hnc : n < S.count := by omega
    go_enter Tryz.func138, Tryz.ntmps138
    go_wp2_with (fail)
    rw [← HB.out, ← HW3.out]
    refine HY.out.mono ?_
    rintro e w4 ⟨rfl, hb4⟩
    obtain ⟨sb, cap, mb, cv, hd, hc, h1, h2, h3⟩ := HH.out.1
    have hb04 : Below w.heap.size w w4 := HH.out.2.1.trans (hb4.mono HH.out.2.1.size)
    have d4 := hd.below hb04
    have b0 := cell_below HH.out.2.2.1 hb4
    have b1 := cell_below HH.out.2.2.2.1 hb4
    have b2 := cell_below HH.out.2.2.2.2.1 hb4
    have cm := d4.cells.2.1
    have HS : Hid (∀ w5, Below w4.drew.heap.size w4.drew w5 → ∃ w6, (Instr.mapUpdate 78 (.map (some mb)) (.int .i64 (n : Int)) (.string s)).run Tryz.prog w5 = .ok () w6 ∧ MapA w6 mb S.count (S.put n s.data.toList).wr ∧ w5.grownBy w6 (some mb) ∧ w6.heap.size = w5.heap.size ∧ ∃ es ck, w5.heap[mb]? = some (.map es ck)) := fun w5 hb5 => by
      have hm := d4.map.of_heap (w' := w5) (hb5.block mb d4.map.lt)
      obtain ⟨w6, g1, g2, g3, g4⟩ := hm.store hd.ok.hi hnc s.data.toList (by rw [es]; unfold maxLen; omega)
      rw [ofL_of] at g1
      exact ⟨w6, g1, g2, g3, g4, hm.is_map⟩
    have HK : Hid (∀ W, Calls Tryz.prog 153 #[.string s] W fun e w' => e = .returned (.string s) ∧ Below W.heap.size W w') := fun W => cloneS_any s W (by omega)
    have HD := Lib.hid (And.intro hd (And.intro hc (And.intro h1 (And.intro h2 (And.intro h3 (And.intro hb04 d4))))))
    have HC : Hid (w4.drew.cell? ⟨B, 0, none⟩ = some (.pointer (some ⟨p, 0, none⟩)) ∧ w4.drew.cell? ⟨B + 1, 0, none⟩ = some (.int .i64 (n : Int)) ∧ w4.drew.cell? ⟨B + 1 + 1, 0, none⟩ = some (.string s) ∧ w4.drew.cell? ⟨p, 1, none⟩ = some (.map (some mb))) := ⟨b0, b1, b2, cm⟩
    have HQ := Lib.hid (And.intro hnc q3)
    clear hd hc hb04 d4 b0 b1 b2 cm hrr q1 q2 hnc q3 ewr hi hsz es h1 h2 h3 hb4 HY
    go_wp2_with (fail)
    go_region_held3 (fun w' => w'.cell? ⟨B, 0, none⟩ = some (.pointer (some ⟨p, 0, none⟩)) ∧ w'.cell? ⟨B + 1, 0, none⟩ = some (.int .i64 (n : Int)) ∧ w'.cell? ⟨B + 1 + 1, 0, none⟩ = some (.string s) ∧ w'.cell? ⟨p, 1, none⟩ = some (.map (some mb)))
      (first
        | exact HC.out
        | exact ⟨cell_below HC.out.1 hb5, cell_below HC.out.2.1 hb5, cell_below HC.out.2.2.1 hb5, cell_below HC.out.2.2.2 hb5⟩
        | exact ⟨cell_grown (cell_below HC.out.1 hb5) HW6.out.2.2.2 HW6.out.2.1, cell_grown (cell_below HC.out.2.1 hb5) HW6.out.2.2.2 HW6.out.2.1, cell_grown (cell_below HC.out.2.2.1 hb5) HW6.out.2.2.2 HW6.out.2.1, cell_grown (cell_below HC.out.2.2.2 hb5) HW6.out.2.2.2 HW6.out.2.1⟩)
      (first
        | (go_at_call 153; (with_reducible refine (HK.out _).mono ?_); rintro e w5 ⟨rfl, hb5⟩; obtain ⟨w6, hrun, hw6⟩ := HS.out w5 hb5; have HW6 := Lib.hid hw6; clear hw6))
    obtain ⟨hd, hc, h1, h2, h3, hb04, d4⟩ := HD.out
    have hb05 : Below w.heap.size w w5 := (below_drew hb04).trans (hb5.mono hb04.size)
    have hg6 := HW6.out.2.1
    have hpm : some p ≠ some mb := fun e => d4.nm.1 (Option.some.inj e)
    have hsm : some sb ≠ some mb := fun e => d4.nm.2 (Option.some.inj e)
    have hokp : (S.put n s.data.toList).ok := hd.ok.put HQ.out.1 (by rw [baList]; exact HQ.out.2)
    have d5 := hd.below hb05
    have d6 : D w6 p sb cap mb cv (S.put n s.data.toList) := ⟨(hg6.block p (block_lt d5.blk) hpm).trans d5.blk, d5.row.of_heap (hg6.block sb d5.row.lt hsm), HW6.out.1, hokp, d5.ne⟩
    have i6 : IsD w6 F p (S.put n s.data.toList) := ⟨sb, cap, mb, cv, d6, (hc.below hb05).of_heap hg6.size (fun k hk hG => hg6.block k hk (fun e => hG.2.2.2 (Option.some.inj e))), h1, h2, h3⟩
    have c6 : Ch F w w6 := (Ch.of_below hb05).grown hg6 (fun j hj => by cases hj; exact .inl h3)
    have kc := change_any F p _ w6 i6
    have b6 : w6.cell? ⟨B, 0, none⟩ = some (.pointer (some ⟨p, 0, none⟩)) := cell_grown (cell_below HC.out.1 hb5) HW6.out.2.2.2 HW6.out.2.1
    have HX := Lib.hid c6
    clear hd hc h1 h2 h3 hb04 d4 hb05 hg6 hpm hsm hokp d5 d6 i6 c6 hb5 hrun
    go_wp2_with (go_at_call 143; refine kc.mono ?_; rintro e w7 ⟨rfl, g7⟩)
    go_ret
    exact ⟨rfl, To.trans (Gr.refl F w w6) HX.out g7⟩
  · have ewr : S.write i s.data.toList = (S, r) := by
      unfold St.write
      have hrr := HR.out
      rw [es]
      split
      · rename_i q; rw [if_pos q] at hrr; rw [hrr]
      · rename_i q; rw [if_neg q] at hrr
        split
        · rename_i q; rw [if_pos q] at hrr; rw [hrr]
        · rename_i q; rw [if_neg q] at hrr
          split
          · rename_i q; rw [if_pos q] at hrr; rw [hrr]
          · rename_i q; rw [if_neg q] at hrr; exact absurd hrr hz
    rw [ewr]
    go_enter Tryz.func138, Tryz.ntmps138
    go_wp2_with (fail)
    rw [← HB.out, ← HW3.out]
    refine HY.out.mono ?_
    rintro e w4 ⟨rfl, hb4⟩
    clear hi hsz
    go_wp2
    go_ret
    exact ⟨rfl, To.of_below HH.out.1 (HH.out.2.1.trans (hb4.mono HH.out.2.1.size))⟩
end Go.Proofs.YtjippoejaieneaaGreat

/- A sector read, sectors flushed. No conditions. -/
namespace Go.Proofs.YtjippoejaieneaaGreat
open Go.RowKit Go.Maps
set_option maxRecDepth 20000
set_option linter.unusedVariables false

theorem one_full_some {S : St} (h : S.ok) {i : Nat} {s : Bts} (hs : S.wr i = some s) (hi : i < S.count) : S.one full i = s := by
  rw [one_some hs]
  have h1 := (h.wr i s hs).2
  have h2 := h.len
  have h3 := sec_len (l := S.safe) (i := i) (by omega)
  unfold full
  rw [List.take_of_length_le (by omega), List.drop_of_length_le (by omega), List.append_nil]
theorem box2 {w : World} (v1 v2 : Value) (t1 t2 : TypeId) : ((w.alloc (.cells #[v1] t1)).alloc (.cells #[v2] t2)).cell? ⟨w.heap.size, 0, none⟩ = some v1 ∧ ((w.alloc (.cells #[v1] t1)).alloc (.cells #[v2] t2)).cell? ⟨w.heap.size + 1, 0, none⟩ = some v2 := by
  refine ⟨cell_alloc (cell_box _ _ _) _, ?_⟩
  have := cell_box (w.alloc (.cells #[v1] t1)) v2 t2
  rwa [show (w.alloc (.cells #[v1] t1)).heap.size = w.heap.size + 1 by simp] at this
theorem box3 {w : World} (v1 v2 v3 : Value) (t1 t2 t3 : TypeId) : (((w.alloc (.cells #[v1] t1)).alloc (.cells #[v2] t2)).alloc (.cells #[v3] t3)).cell? ⟨w.heap.size, 0, none⟩ = some v1 ∧
    (((w.alloc (.cells #[v1] t1)).alloc (.cells #[v2] t2)).alloc (.cells #[v3] t3)).cell? ⟨w.heap.size + 1, 0, none⟩ = some v2 ∧ (((w.alloc (.cells #[v1] t1)).alloc (.cells #[v2] t2)).alloc (.cells #[v3] t3)).cell? ⟨w.heap.size + 1 + 1, 0, none⟩ = some v3 := by
  refine ⟨cell_alloc (box2 _ _ _ _).1 _, cell_alloc (box2 _ _ _ _).2 _, ?_⟩
  have := cell_box ((w.alloc (.cells #[v1] t1)).alloc (.cells #[v2] t2)) v3 t3
  rwa [show ((w.alloc (.cells #[v1] t1)).alloc (.cells #[v2] t2)).heap.size = w.heap.size + 1 + 1 by simp] at this
set_option maxHeartbeats 2000000 in
set_option maxRecDepth 20000 in
theorem read_any (F : Nat → Prop) (p : Nat) (S : St) (w : World) (h : IsD w F p S) (i : Int) (hi : -9223372036854775808 ≤ i ∧ i < 9223372036854775808) :
    Calls Tryz.prog 100 #[.pointer (some ⟨p, 0, none⟩), .int .i64 i] w fun e w' => e = .returned (.tuple #[.string (ofL (S.read i).1), .int .i64 (S.read i).2]) ∧ Below w.heap.size w w' := by
  obtain ⟨B, hB⟩ : ∃ B, B = w.heap.size := ⟨_, rfl⟩
  obtain ⟨w3, hw3⟩ : ∃ w3, w3 = ((w.alloc (.cells #[.pointer (some ⟨p, 0, none⟩)] 28)).alloc (.cells #[.int .i64 i] 3)) := ⟨_, rfl⟩
  have hb3 : Below w.heap.size w w3 := by subst hw3; exact ((Below.refl _ w).alloc (Nat.le_refl _) _).alloc (by simp) _
  obtain ⟨k0, k1⟩ : w3.cell? ⟨B, 0, none⟩ = some (.pointer (some ⟨p, 0, none⟩)) ∧ w3.cell? ⟨B + 1, 0, none⟩ = some (.int .i64 i) := by subst hw3 hB; exact box2 _ _ _ _
  have i3 := h.below hb3
  have hwhy := refusal124 F p S w3 i3 _ _ _ (why124 F p S w3 i3 B (B + 1) i k0 k1 hi)
  have HH := Lib.hid (And.intro h (And.intro hb3 (And.intro k0 (And.intro k1 i3))))
  obtain ⟨r, hr⟩ : ∃ r, r = (if S.dead = true then (2 : Int) else if i < 0 ∨ (S.count : Int) ≤ i then 71 else 0) := ⟨_, rfl⟩
  rw [← hr] at hwhy
  have HR := Lib.hid hr
  have HY := Lib.hid hwhy
  have HW3 := Lib.hid hw3
  have HB := Lib.hid hB
  clear h hb3 k0 k1 i3 hr hwhy hw3 hB
  by_cases hz : r = 0
  · subst hz
    have hrr := HR.out
    have q1 : ¬ S.dead = true := fun q => by rw [if_pos q] at hrr; omega
    rw [if_neg q1] at hrr
    have q2 : ¬ (i < 0 ∨ (S.count : Int) ≤ i) := fun q => by rw [if_pos q] at hrr; omega
    have ewr : S.read i = (S.one full i.toNat, 0) := by unfold St.read; rw [if_neg q1, if_neg q2]
    rw [ewr]
    obtain ⟨n, hn⟩ : ∃ n : Nat, i = (n : Int) := ⟨i.toNat, by omega⟩
    subst hn
    rw [Int.toNat_natCast]
    have hnc : n < S.count := by omega
    go_enter Tryz.func100, Tryz.ntmps100
    go_wp2_with (fail)
    rw [← HB.out, ← HW3.out]
    refine HY.out.mono ?_
    rintro e w4 ⟨rfl, hb4⟩
    obtain ⟨sb, cap, mb, cv, hd, hc, h1, h2, h3⟩ := HH.out.1
    have hb04 : Below w.heap.size w w4 := HH.out.2.1.trans (hb4.mono HH.out.2.1.size)
    have d4 := hd.below hb04
    have b0 := cell_below HH.out.2.2.1 hb4
    have b1 := cell_below HH.out.2.2.2.1 hb4
    have cm := d4.cells.2.1
    have c0 := d4.cells.1
    have hlk : ∀ m, (Instr.lookup 78 (.map (some mb)) (.int .i64 (n : Int)) true).run Tryz.prog (w4.drewN m) = .ok (.tuple #[.string (ofL ((S.wr n).getD [])), .bool (S.wr n).isSome]) (w4.drewN m) := fun m => ((d4.map.of_heap (w' := w4.drewN m) rfl).look hd.ok.hi hnc).2
    have hok := hd.ok
    have hlen := hok.len
    have hhi := hok.hi
    have hrow := d4.row
    have hcap := hrow.le
    have hw : IntKind.i64.wrap ((128 * n : Nat) : Int) = ((128 * n : Nat) : Int) := by rw [IntKind.wrap_i64]; omega
    have hx : (n : Int) * 128 = ((128 * n : Nat) : Int) := by omega
    have hcv : ∀ W, W.heap = w4.heap → (convert 77 9 (.slice (some ⟨sb, 128 * n, none⟩) 128 (cap - 128 * n))).run Tryz.prog W = .ok (.string (ofL (sec S.safe n))) W := fun W hW =>
      (hrow.of_heap (w' := W) (by rw [hW])).string (w' := W) (128 * n) 128 (cap - 128 * n) (by omega)
    have HCV := Lib.hid hcv
    obtain ⟨o, hod⟩ : ∃ o, o = 128 * n := ⟨_, rfl⟩
    obtain ⟨N, hN⟩ : ∃ N, N = S.safe.length := ⟨_, rfl⟩
    rw [← hod] at hw hx HCV
    rw [← hN] at c0
    have ho1 : o ≤ N := by omega
    have ho2 : ¬ cap = o := by omega
    have ho3 : 128 ≤ cap - o := by omega
    have HX := Lib.hid (And.intro hb04 (And.intro hok (And.intro hnc hlen)))
    clear hd hc hb04 d4 hok hlen hhi hrow hcap hcv hod hN hrr q1 q2 hnc ewr hi h1 h2 h3 hb4 HY HH
    cases hwr : S.wr n with
    | some s =>
      simp only [hwr, Option.getD_some, Option.isSome_some] at hlk
      have HWR := Lib.hid hwr
      clear hwr
      go_wp2_with (fail)
      go_quiet (fail)
      go_wp2
      go_ret2
      exact ⟨by rw [one_full_some HX.out.2.1 HWR.out HX.out.2.2.1]; rfl, (below_drewN HX.out.1 _)⟩
    | none =>
      simp only [hwr, Option.getD_none, Option.isSome_none] at hlk
      have HWR := Lib.hid hwr
      have e1 := one_none (f := full) hwr
      have hbl : ∀ a b, Below w.heap.size w ((w4.drewN a).drewN b) := fun a b => below_drewN (below_drewN HX.out.1 _) _
      have HBL := Lib.hid hbl
      have hcells : ∀ m a, (w4.drewN m).cell? a = w4.cell? a := fun m a => rfl
      have cc0 : ∀ m, (w4.drewN m).cell? ⟨B, 0, none⟩ = some (.pointer (some ⟨p, 0, none⟩)) := fun m => b0
      have cc1 : ∀ m, (w4.drewN m).cell? ⟨B + 1, 0, none⟩ = some (.int .i64 (n : Int)) := fun m => b1
      have cc2 : ∀ m, (w4.drewN m).cell? ⟨p, 0, none⟩ = some (.slice (some ⟨sb, 0, none⟩) N cap) := fun m => c0
      have HC1 := Lib.hid (And.intro cc0 (And.intro cc1 cc2))
      clear hwr hcells cc0 cc1 cc2 hbl
      have HE1 := Lib.hid e1
      clear e1
      go_wp2_with (fail)
      go_quiet (fail)
      have e0 := HC1.out.1 nq
      have e1' := HC1.out.2.1 nq
      have e2 := HC1.out.2.2 nq
      have HV : Hid (∀ m, (convert 77 9 (.slice (some ⟨sb, o, none⟩) 128 (cap - o))).run Tryz.prog ((w4.drewN nq).drewN m) = .ok (.string (ofL (sec S.safe n))) ((w4.drewN nq).drewN m)) := fun m => HCV.out _ rfl
      have HE : Hid (∀ m, Below w.heap.size w ((w4.drewN nq).drewN m)) := fun m => HBL.out nq m
      clear hlk b0 b1 cm c0
      generalize w4.drewN nq = W at *
      have hV := HV.out
      go_wp2_with (fail)
      go_quiet (fail)
      go_wp2
      go_ret2
      exact ⟨by rw [HE1.out]; rfl, HE.out _⟩
  · have ewr : S.read i = ([], r) := by
      unfold St.read
      have hrr := HR.out
      split
      · rename_i q; rw [if_pos q] at hrr; rw [hrr]
      · rename_i q; rw [if_neg q] at hrr
        split
        · rename_i q; rw [if_pos q] at hrr; rw [hrr]
        · rename_i q; rw [if_neg q] at hrr; exact absurd hrr hz
    rw [ewr]
    go_enter Tryz.func100, Tryz.ntmps100
    go_wp2_with (fail)
    rw [← HB.out, ← HW3.out]
    refine HY.out.mono ?_
    rintro e w4 ⟨rfl, hb4⟩
    clear hi
    go_wp2
    go_ret2
    exact ⟨rfl, HH.out.2.1.trans (hb4.mono HH.out.2.1.size)⟩
theorem calm_start {S : St} (h : S.ok) (a : Nat) : S.calm a a = S := by
  have h1 : secs S.count (fun i => if a ≤ i ∧ i < a then S.one full i else sec S.safe i) = S.safe := by
    rw [secs_same (g' := sec S.safe) (fun i hi => by rw [if_neg (by omega)])]
    exact secs_self h.len
  have h2 : (fun i => if a ≤ i ∧ i < a then none else S.wr i) = S.wr := by
    funext i; rw [if_neg (by omega)]
  unfold St.calm
  rw [h1, h2]
theorem calm_safe {S : St} (h : S.ok) (a b i : Nat) (hi : i < S.count) : sec (S.calm a b).safe i = if a ≤ i ∧ i < b then S.one full i else sec S.safe i := by
  have := sec_secs (c := S.count) (g := fun i => if a ≤ i ∧ i < b then S.one full i else sec S.safe i) (fun i hi => by
    show (if a ≤ i ∧ i < b then S.one full i else sec S.safe i).length = 128
    split
    · exact S.one_len h full (fun _ => Nat.le_refl _) i hi
    · have := h.len; exact sec_len (by omega)) i hi
  exact this
theorem calm_step {S : St} (h : S.ok) {a b : Nat} (hab : a ≤ b) (hb : b < S.count) : lay (S.calm a b).safe (128 * b) ((S.wr b).getD []) = (S.calm a (b + 1)).safe := by
  have hl1 := S.calm_len h a b
  have hl2 := S.calm_len h a (b + 1)
  have hs : ((S.wr b).getD []).length ≤ 128 := by
    cases hw : S.wr b with
    | none => simp
    | some s => have := (h.wr b s hw).2; simp; omega
  refine ext_sec (c := S.count) (by rw [lay_len (by omega)]; exact hl1) hl2 fun i hi => ?_
  rw [calm_safe h _ _ _ hi]
  by_cases e : i = b
  · subst e
    rw [sec_lay_same (by omega) hs, if_pos (by omega), calm_safe h _ _ _ hi, if_neg (by omega)]
    cases hw : S.wr i with
    | none => rw [one_none hw]; simp
    | some s =>
      have h1 := (h.wr i s hw).2
      have h2 := h.len
      have h3 := sec_len (l := S.safe) (i := i) (by omega)
      rw [one_full_some h hw hi]
      simp only [Option.getD_some]
      rw [List.drop_of_length_le (by omega), List.append_nil]
  · rw [sec_lay_other (by omega) hs (fun q => e q.symm), calm_safe h _ _ _ hi]
    by_cases q : a ≤ i ∧ i < b
    · rw [if_pos q, if_pos (by omega)]
    · rw [if_neg q, if_neg (by omega)]
theorem calm_wr {S : St} {a b : Nat} (hab : a ≤ b) : (fun j => if j = b then none else (S.calm a b).wr j) = (S.calm a (b + 1)).wr := by
  funext j
  show (if j = b then none else if a ≤ j ∧ j < b then none else S.wr j) = if a ≤ j ∧ j < b + 1 then none else S.wr j
  by_cases e : j = b
  · rw [if_pos e, if_pos (by omega)]
  · rw [if_neg e]
    by_cases q : a ≤ j ∧ j < b
    · rw [if_pos q, if_pos (by omega)]
    · rw [if_neg q, if_neg (by omega)]
theorem calm_at {S : St} {a b : Nat} : (S.calm a b).wr b = S.wr b := by
  show (if a ≤ b ∧ b < b then none else S.wr b) = _
  rw [if_neg (by omega)]
end Go.Proofs.YtjippoejaieneaaGreat

/- Sectors flushed: what the call returns and what the disk is then. No conditions. -/
namespace Go.Proofs.YtjippoejaieneaaGreat
open Go.RowKit Go.Maps
set_option maxRecDepth 20000
set_option linter.unusedVariables false

theorem wpList_delete_run {ops : Array Oper} {rest : List Oper} {o : Oper} {a : Act} {w : World} {Q : Exit → Act → World → Prop} (hgd : o.guard = none) (s x : Operand) (t k : TypeId)
    (ho : o.op = .call { callee := .builtin .delete, args := #[s, x], argTypes := #[t, k] }) (vs vx v' : Value) (w' : World) (hs : a.eval s = vs) (hx : a.eval x = vx)
    (hr : (Builtin.delete_ #[t, k] o.type #[vs, vx]).run Tryz.prog w = .ok v' w') (hk : wpList Tryz.prog ops Q rest (a.put o.dst v') w') : wpList Tryz.prog ops Q (o :: rest) a w := by
  refine wpList_plain hgd fun K hK => ?_
  unfold Oper.wp execOp
  simp only [ho, resolve, invoke, builtin, Sem.run_bind, Sem.run_pure, Result.andThen_ok, List.map_toArray, List.map_cons, List.map_nil, hs, hx, hr]
  exact hK _ _ hk
theorem calm_D {w w2 w3 : World} {p sb cap mb : Nat} {cv : Value} {S : St} {a b : Nat} (ho : S.ok) (hab : a ≤ b) (hb : b < S.count) (h : D w p sb cap mb cv (S.calm a b))
    (hrow : RowB w2 sb cap (lay (S.calm a b).safe (128 * b) ((S.wr b).getD []))) (hw2 : w2.heap[p]? = w.heap[p]?) (hm : MapA w3 mb (S.calm a b).count (fun j => if j = b then none else (S.calm a b).wr j)) (hg : w2.grownBy w3 (some mb)) : D w3 p sb cap mb cv (S.calm a (b + 1)) := by
  have e1 := calm_step ho hab hb
  have e2 := calm_wr (S := S) hab
  rw [e1] at hrow
  rw [e2] at hm
  have hl : (S.calm a (b + 1)).safe.length = (S.calm a b).safe.length := by rw [S.calm_len ho, S.calm_len ho]
  refine ⟨?_, hrow.of_heap (hg.block sb hrow.lt (fun e => h.nm.2 (Option.some.inj e))), ?_, ho.calm a (b + 1), h.ne⟩
  · rw [hg.block p (by have := block_lt (hw2.trans h.blk); exact this) (fun e => h.nm.1 (Option.some.inj e)), hw2, h.blk, hl]; rfl
  · rw [show (S.calm a (b + 1)).count = (S.calm a b).count from St.count_of hl]; exact hm
set_option maxHeartbeats 4000000 in
set_option maxRecDepth 20000 in
theorem flush_any (F : Nat → Prop) (p : Nat) (S : St) (w : World) (h : IsD w F p S) (hF : ∀ k, F k → k < w.heap.size) (f n : Int) (hf : -9223372036854775808 ≤ f ∧ f < 9223372036854775808) (hn : -9223372036854775808 ≤ n ∧ n < 9223372036854775808) :
    Calls Tryz.prog 122 #[.pointer (some ⟨p, 0, none⟩), .int .i64 f, .int .i64 n] w fun e w' => e = .returned (.int .i64 (S.flush f n).2) ∧ To F w w' p (S.flush f n).1 := by
  obtain ⟨B, hB⟩ : ∃ B, B = w.heap.size := ⟨_, rfl⟩
  obtain ⟨w3, hw3⟩ : ∃ w3, w3 = ((w.alloc (.cells #[.pointer (some ⟨p, 0, none⟩)] 28)).alloc (.cells #[.int .i64 f] 3)).alloc (.cells #[.int .i64 n] 3) := ⟨_, rfl⟩
  have hb3 : Below w.heap.size w w3 := by subst hw3; exact (((Below.refl _ w).alloc (Nat.le_refl _) _).alloc (by simp) _).alloc (by simp; omega) _
  obtain ⟨k0, k1, k2⟩ : w3.cell? ⟨B, 0, none⟩ = some (.pointer (some ⟨p, 0, none⟩)) ∧ w3.cell? ⟨B + 1, 0, none⟩ = some (.int .i64 f) ∧ w3.cell? ⟨B + 1 + 1, 0, none⟩ = some (.int .i64 n) := by subst hw3 hB; exact box3 _ _ _ _ _ _
  have i3 := h.below hb3
  have hwhy := refusal142 F p S w3 i3 _ _ _ _ (why142 F p S w3 i3 (B + 1) (B + 1 + 1) B f n k0 k1 k2 hf hn)
  obtain ⟨r, hr⟩ : ∃ r, r = (if S.dead = true then (2 : Int) else if f < 0 ∨ n < 0 ∨ (S.count : Int) - n < f then 71 else 0) := ⟨_, rfl⟩
  rw [← hr] at hwhy
  have HH := Lib.hid (And.intro h (And.intro hb3 (And.intro k0 (And.intro k1 (And.intro k2 (And.intro hF i3))))))
  have HR := Lib.hid hr
  have HY := Lib.hid hwhy
  have HW3 := Lib.hid hw3
  have HB := Lib.hid hB
  clear h hb3 k0 k1 k2 i3 hr hwhy hw3 hB hF
  by_cases hz : r = 0
  · subst hz
    have hrr := HR.out
    have q1 : ¬ S.dead = true := fun q => by rw [if_pos q] at hrr; omega
    rw [if_neg q1] at hrr
    have q2 : ¬ (f < 0 ∨ n < 0 ∨ (S.count : Int) - n < f) := fun q => by rw [if_pos q] at hrr; omega
    have ewr : S.flush f n = if S.change.2 = 0 then (S.change.1.calm f.toNat (f.toNat + n.toNat), 0) else S.change := by unfold St.flush; rw [if_neg q1, if_neg q2]
    rw [ewr]
    obtain ⟨a, ha⟩ : ∃ a : Nat, f = (a : Int) := ⟨f.toNat, by omega⟩
    obtain ⟨m, hm⟩ : ∃ m : Nat, n = (m : Int) := ⟨n.toNat, by omega⟩
    subst ha hm
    rw [Int.toNat_natCast, Int.toNat_natCast]
    have hamc : a + m ≤ S.count := by omega
    have HQ := Lib.hid hamc
    have hok2 := HH.out.1.ok
    have hch2 := hok2.change
    have hch4 := hok2.hi
    clear q1 q2 hrr ewr hf hn
    by_cases hd0 : S.change.2 = 0
    · rw [if_pos hd0]
      obtain ⟨S1, hS1⟩ : ∃ S1, S1 = S.change.1 := ⟨_, rfl⟩
      have HS1 := Lib.hid hS1
      rw [← hS1]
      clear hS1
      go_enter Tryz.func122, Tryz.ntmps122
      go_wp2_with (fail)
      rw [← HB.out, ← HW3.out]
      refine HY.out.mono ?_
      rintro e w4 ⟨rfl, hb4⟩
      have hb04 : Below w.heap.size w w4 := HH.out.2.1.trans (hb4.mono HH.out.2.1.size)
      have i4 := HH.out.1.below hb04
      have b0 := cell_below HH.out.2.2.1 hb4
      have b1 := cell_below HH.out.2.2.2.1 hb4
      have b2 := cell_below HH.out.2.2.2.2.1 hb4
      have kc := change_any F p S w4 i4
      rw [hd0] at kc
      have HKC := Lib.hid kc
      have HB4 := Lib.hid (And.intro hb04 (And.intro i4 (And.intro hb4 (And.intro b1 b2))))
      have HOK := Lib.hid (And.intro hok2 (And.intro hch2 hch4))
      clear hb04 i4 b1 b2 kc hok2 hch2 hch4 hamc
      go_wp2_with (fail)
      refine HKC.out.mono ?_
      rintro e w5 ⟨rfl, F1, i5, g5, ch5⟩
      have hBs : B + 2 < w3.heap.size ∧ w3.heap.size ≤ w4.heap.size := ⟨by rw [HW3.out, HB.out]; simp, HB4.out.2.2.1.size⟩
      have hnF : ∀ k, B ≤ k → k < w3.heap.size → ¬ F1 k := fun k h1 h2 q => by
        rcases g5 k q with q | q
        · have := HH.out.2.2.2.2.2.1 k q; rw [HB.out] at h1; omega
        · omega
      have hkeep : ∀ (W : World), Ch F w4 W → True := fun _ _ => trivial
      have hnF0 : ∀ k, B ≤ k → ¬ F k := fun k h1 q => by have := HH.out.2.2.2.2.2.1 k q; rw [HB.out] at h1; omega
      have c5 : ∀ (k : Nat) (v : Value), B ≤ k → w4.cell? ⟨k, 0, none⟩ = some v → w5.cell? ⟨k, 0, none⟩ = some v := fun k v h1 h2 => by
        have hl := block_lt_of_cell h2
        rw [← h2]; simp only [World.cell?, ch5.block k hl (hnF0 k h1)]
      have x0 := c5 B _ (Nat.le_refl _) b0
      have x1 := c5 (B + 1) _ (by omega) HB4.out.2.2.2.1
      have x2 := c5 (B + 1 + 1) _ (by omega) HB4.out.2.2.2.2
      have hS1 := HS1.out
      have hok1 : S1.ok := by rw [hS1]; exact HOK.out.2.1.1
      have hcn1 : S1.count = S.count := by rw [hS1]; exact HOK.out.2.1.2
      rw [← hS1] at i5
      obtain ⟨sb, cap, mb, cv, hd, hc, h1, h2, h3⟩ := i5
      have hs0 : D w5 p sb cap mb cv (S1.calm a a) := by rw [calm_start hok1]; exact hd
      have hS5 : w4.heap.size ≤ w5.heap.size := ch5.size
      have hB5 : B + 2 < w5.heap.size := by omega
      have HX := Lib.hid (And.intro g5 (And.intro ch5 (And.intro hok1 (And.intro hcn1 (And.intro hnF (And.intro hBs (And.intro h1 (And.intro h2 h3))))))))
      have HD := Lib.hid (And.intro hs0 (And.intro hc (And.intro x0 (And.intro x1 x2))))
      clear g5 ch5 hok1 hcn1 hnF hBs h1 h2 h3 hs0 hc hd hkeep c5 hnF0 b0 hS5 hS1 hd0 x0 x2
      go_wp2
      go_loopw [8] (fun j wr => ∃ k : Nat, k ≤ m ∧ j = .int .i64 ((a + k : Nat) : Int) ∧ D wr p sb cap mb cv (S1.calm a (a + k)) ∧ CV wr (fun b => F1 b ∧ b ≠ p ∧ b ≠ sb ∧ b ≠ mb) cv S1.ch ∧ Ch F1 w5 wr ∧
        wr.cell? ⟨B, 0, none⟩ = some (.pointer (some ⟨p, 0, none⟩)) ∧ wr.cell? ⟨B + 1, 0, none⟩ = some (.int .i64 (a : Int)) ∧ wr.cell? ⟨B + 1 + 1, 0, none⟩ = some (.int .i64 (m : Int))) (fun j _ => a + m - (intOf j).toNat)
      case atStart => exact ⟨0, Nat.zero_le _, rfl, HD.out.1, HD.out.2.1, Ch.refl _ _, HD.out.2.2.1, HD.out.2.2.2.1, HD.out.2.2.2.2⟩
      case round =>
        obtain ⟨k, hk, rfl, hd, hc, hch, x0, x1, x2⟩ := hrel
        have hQ := HQ.out
        have hhi := HOK.out.2.2
        have ew : wrap64 ((a : Int) + (m : Int)) = (a : Int) + (m : Int) := by unfold wrap64; omega
        by_cases hlt : k < m
        · obtain ⟨j, hj⟩ : ∃ j, j = a + k := ⟨_, rfl⟩
          have hok1 := HX.out.2.2.1
          have hcn := HX.out.2.2.2.1
          have hjc : j < S1.count := by omega
          have hcc : (S1.calm a (a + k)).count = S1.count := S1.calm_count hok1 _ _
          have hcl : (S1.calm a (a + k)).safe.length = 128 * S1.count := S1.calm_len hok1 _ _
          rw [← hj] at hd hcc hcl ⊢
          obtain ⟨c0, c1, c2, c3, c4, hfr⟩ := hd.cells
          have hlk := (hd.map.of_heap (w' := wr.drew) rfl).look (by rw [hcc]; omega) (i := j) (by rw [hcc]; exact hjc)
          have hlk1 := hlk.1
          rw [calm_at] at hlk1
          have hs128 : ((S1.wr j).getD []).length ≤ 128 := by
            cases hw : S1.wr j with
            | none => simp
            | some s => have := (hok1.wr j s hw).2; simp; omega
          obtain ⟨t, ht⟩ : ∃ t, t = (S1.wr j).getD [] := ⟨_, rfl⟩
          rw [← ht] at hlk1 hs128
          have hrl := hd.row.le
          obtain ⟨cs, hcp, hrow2⟩ := RowB.copy (w := wr.drew) hd.row (128 * j) ((S1.calm a j).safe.length - 128 * j) (cap - 128 * j) (ofL t) 3 (by rw [ofL_size]; omega) (by rw [ofL_size]; omega)
          rw [ofL_list] at hrow2
          obtain ⟨w6, hw6⟩ : ∃ w6, w6 = wr.drew.setRow sb cs := ⟨_, rfl⟩
          have hps := hd.ne
          have hpm := hd.nm
          have hsF : F1 sb := HX.out.2.2.2.2.2.2.2.1
          have hnF := HX.out.2.2.2.2.1
          have hBsz := HX.out.2.2.2.2.2.1
          have hB0 : sb ≠ B := fun e => hnF B (Nat.le_refl _) (by omega) (by rw [← e]; exact hsF)
          have hB1 : sb ≠ B + 1 := fun e => hnF (B + 1) (by omega) (by omega) (by rw [← e]; exact hsF)
          have hB2 : sb ≠ B + 1 + 1 := fun e => hnF (B + 1 + 1) (by omega) (by omega) (by rw [← e]; exact hsF)
          have hset : ∀ (b : Nat) (v : Value), sb ≠ b → (∀ off, wr.cell? ⟨b, off, none⟩ = some v → w6.cell? ⟨b, off, none⟩ = some v) := fun b v hne off hv => by
            rw [hw6, ← hv]; simp only [World.cell?, setRow_other wr.drew sb b cs (fun e => hne e.symm)]; rfl
          have y0 := hset B _ hB0 0 x0
          have y1 := hset (B + 1) _ hB1 0 x1
          have y2 := hset (B + 1 + 1) _ hB2 0 x2
          have yc := hset p _ (fun e => hps e.symm) 1 c1
          have hm6 : MapA w6 mb (S1.calm a j).count (S1.calm a j).wr := hd.map.of_heap (by rw [hw6, setRow_other _ _ _ _ (fun e => hpm.2 e.symm)]; rfl)
          obtain ⟨w7, hdel, hm7, hg7, hs7⟩ := hm6.drop (by rw [hcc]; omega) (i := j) (by rw [hcc]; exact hjc) 0
          have hp6 : w6.heap[p]? = wr.heap[p]? := by rw [hw6, setRow_other _ _ _ _ hps]; rfl
          rw [← hw6] at hcp hrow2
          rw [ht] at hrow2
          have hd7 := calm_D hok1 (by omega : a ≤ j) hjc hd hrow2 hp6 hm7 hg7
          have hmi := hm6.is_map
          have z0 := cell_grown y0 hmi hg7
          have z1 := cell_grown y1 hmi hg7
          have z2 := cell_grown y2 hmi hg7
          have hch7 : Ch F1 w5 w7 := by
            refine Ch.grown (w' := w6) ?_ hg7 (fun q hq => by cases hq; exact .inl HX.out.2.2.2.2.2.2.2.2)
            rw [hw6]; exact (Ch.drew hch).setRow hsF cs
          have hc7 : CV w7 (fun b => F1 b ∧ b ≠ p ∧ b ≠ sb ∧ b ≠ mb) cv S1.ch := by
            have e6 : CV w6 (fun b => F1 b ∧ b ≠ p ∧ b ≠ sb ∧ b ≠ mb) cv S1.ch := CV.of_heap (w := wr) hc (by rw [hw6, setRow_size]; exact Nat.le_refl _) (fun q hq hG => by rw [hw6, setRow_other _ _ _ _ hG.2.2.1]; rfl)
            exact e6.of_heap hg7.size fun q hq hG => hg7.block q hq (fun e => hG.2.2.2 (Option.some.inj e))
          have HZ := Lib.hid (And.intro hd7 (And.intro hc7 (And.intro hch7 (And.intro z0 (And.intro z1 (And.intro z2 hj))))))
          obtain ⟨o, hod⟩ : ∃ o, o = 128 * j := ⟨_, rfl⟩
          obtain ⟨N, hN⟩ : ∃ N, N = (S1.calm a j).safe.length := ⟨_, rfl⟩
          rw [← hN, ← hod] at hcp
          rw [← hN] at c0
          have hx : (j : Int) * 128 = (o : Int) := by omega
          have hwo : IntKind.i64.wrap (o : Int) = (o : Int) := by rw [IntKind.wrap_i64]; omega
          have ho1 : o ≤ N := by omega
          have ho2 : ¬ cap = o := by omega
          have hjm : (j : Int) < (a : Int) + (m : Int) := by omega
          have ew1 : wrap64 ((j : Int) + 1) = ((j + 1 : Nat) : Int) := by unfold wrap64; omega
          have HN := Lib.hid (And.intro hN (And.intro hod hlt))
          clear hd hc hch hok1 hcn hjc hcc hcl hlk hs128 ht hrl hrow2 hps hpm hsF hnF hBsz hB0 hB1 hB2 hset y1 y2 hm6 hm7 hg7 hs7 hp6 hd7 hmi z0 z1 z2 hch7 hc7 hod hN hQ hhi hj hk c2 c3 c4 hfr hlt hB5 hb4
          have HD6 := Lib.hid (And.intro hdel (And.intro y0 yc))
          have HW6 := Lib.hid hw6
          clear hw6 hdel y0 yc
          go_wp2
          go_still_tail 13, (by kernel_rfl)
          (try refine wpStill_nil ?_)
          change wpList _ _ _ _ _ wr.drew
          refine Lib.wpList_copy_run wr.drew rfl _ _ 77 9 rfl _ _ rfl rfl hcp ?_
          go_frame
          have hdel := HD6.out.1
          have y0 := HD6.out.2.1
          have yc := HD6.out.2.2
          clear hcp x0 x1 x2 c0 c1 hlk1
          go_wp2_with (at_builtin; refine wpList_delete_run rfl _ _ 78 3 rfl _ _ _ _ rfl rfl hdel ?_)
          obtain ⟨hd7, hc7, hch7, z0, z1, z2, hj⟩ := HZ.out
          have hlt := HN.out.2.2
          rw [show j + 1 = a + (k + 1) by omega] at hd7
          exact ⟨⟨k + 1, by omega, by rw [ew1]; congr 2; omega, hd7, hc7, hch7, z0, z1, z2⟩, by rw [ew1]; simp only [intOf]; omega⟩
        · have hkm : k = m := by omega
          subst hkm
          have hj : ¬ ((a + k : Nat) : Int) < (a : Int) + (k : Int) := by omega
          have HZ := Lib.hid (And.intro hd (And.intro hc hch))
          clear hd hc hch hQ hhi hk hlt
          go_wp2
          go_ret
          refine ⟨rfl, To.after_below HB4.out.1 (To.trans HX.out.1 HX.out.2.1 ⟨F1, ⟨sb, cap, mb, cv, HZ.out.1, HZ.out.2.1, HX.out.2.2.2.2.2.2.1, HX.out.2.2.2.2.2.2.2.1, HX.out.2.2.2.2.2.2.2.2⟩, Gr.refl _ _ _, HZ.out.2.2⟩)⟩
    · rw [if_neg hd0]
      obtain ⟨⟨RS, r2⟩, hR⟩ : ∃ R, R = S.change := ⟨_, rfl⟩
      rw [← hR] at hd0 ⊢
      go_enter Tryz.func122, Tryz.ntmps122
      go_wp2_with (fail)
      rw [← HB.out, ← HW3.out]
      refine HY.out.mono ?_
      rintro e w4 ⟨rfl, hb4⟩
      have hb04 : Below w.heap.size w w4 := HH.out.2.1.trans (hb4.mono HH.out.2.1.size)
      have i4 := HH.out.1.below hb04
      have b0 := cell_below HH.out.2.2.1 hb4
      have b1 := cell_below HH.out.2.2.2.1 hb4
      have b2 := cell_below HH.out.2.2.2.2.1 hb4
      have kc := change_any F p S w4 i4
      rw [← hR] at kc
      have HKC := Lib.hid kc
      have HB4 := Lib.hid (And.intro hb04 (And.intro i4 (And.intro hb4 (And.intro b1 b2))))
      have HOK := Lib.hid (And.intro hok2 (And.intro hch2 hch4))
      clear hR hb04 i4 b1 b2 kc hok2 hch2 hch4 hamc
      go_wp2_with (fail)
      refine HKC.out.mono ?_
      rintro e w5 ⟨rfl, F1, i5, g5, ch5⟩
      have hd1 : ¬ r2 = 0 := hd0
      clear hd0
      go_wp2
      go_ret
      exact ⟨rfl, To.after_below HB4.out.1 ⟨F1, i5, g5, ch5⟩⟩
  · have ewr : S.flush f n = (S, r) := by
      unfold St.flush
      have hrr := HR.out
      split
      · rename_i q; rw [if_pos q] at hrr; rw [hrr]
      · rename_i q; rw [if_neg q] at hrr
        split
        · rename_i q; rw [if_pos q] at hrr; rw [hrr]
        · rename_i q; rw [if_neg q] at hrr; exact absurd hrr hz
    rw [ewr]
    go_enter Tryz.func122, Tryz.ntmps122
    go_wp2_with (fail)
    rw [← HB.out, ← HW3.out]
    refine HY.out.mono ?_
    rintro e w4 ⟨rfl, hb4⟩
    clear hf hn
    go_wp2
    go_ret
    exact ⟨rfl, To.of_below HH.out.1 (HH.out.2.1.trans (hb4.mono HH.out.2.1.size))⟩
end Go.Proofs.YtjippoejaieneaaGreat

/- A disk made, armed and cloned. Conditions: strings and choices are few enough for a machine. -/
namespace Go.Proofs.YtjippoejaieneaaGreat
open Go.RowKit Go.Maps
set_option maxRecDepth 20000
set_option linter.unusedVariables false

theorem CV.take {w : World} {G : Nat → Prop} {q : Option Addr} {n cap : Nat} {ch : List Int} (h : CV w G (.slice q n cap) ch) (m : Nat) (hm : m ≤ ch.length) : CV w G (.slice q m cap) (ch.take m) := by
  obtain ⟨q', cap', e, h2, h3⟩ := h
  injection e with e1 e2 e3
  subst e1 e3
  have hl : (ch.take m).length = m := by simp; omega
  refine ⟨q, cap, by rw [hl], by omega, fun hne => ?_⟩
  have hne2 : ch ≠ [] := fun e => by subst e; simp at hne
  obtain ⟨b, o, hq, hG, hlt, hc⟩ := h3 hne2
  refine ⟨b, o, hq, hG, hlt, fun j hj => ?_⟩
  rw [hc j (by omega)]
  congr 2
  rw [List.getD_eq_getElem?_getD, List.getD_eq_getElem?_getD, List.getElem?_take, if_pos (by omega)]
theorem CV.len {w : World} {G : Nat → Prop} {q : Option Addr} {n cap : Nat} {ch : List Int} (h : CV w G (.slice q n cap) ch) : n = ch.length ∧ n ≤ cap := by
  obtain ⟨q', cap', e, h2, h3⟩ := h
  injection e with e1 e2 e3
  subst e2 e3
  exact ⟨rfl, h2⟩
set_option maxHeartbeats 2000000 in
set_option maxRecDepth 20000 in
theorem arm_any (F : Nat → Prop) (p : Nat) (S : St) (w : World) (h : IsD w F p S) (hF : ∀ k, F k → k < w.heap.size) (n : Int) (hn : -9223372036854775808 ≤ n ∧ n < 9223372036854775808) (G : Nat → Prop) (v : Value) (ch : List Int) (hcv : CV w G v ch) (hG : ∀ k, G k → k ≠ p) (hci : ∀ x ∈ ch, -9223372036854775808 ≤ x ∧ x < 9223372036854775808) :
    Calls Tryz.prog 11 #[.pointer (some ⟨p, 0, none⟩), .int .i64 n, v] w fun e w' => e = .returned (.int .i64 (S.arm n ch).2) ∧ To F w w' p (S.arm n ch).1 := by
  obtain ⟨q, nn, cap0, hv⟩ : ∃ q n cap, v = .slice q n cap := by obtain ⟨q, cap, e, _⟩ := hcv; exact ⟨_, _, _, e⟩
  subst hv
  obtain ⟨hnn, hncap⟩ := hcv.len
  obtain ⟨B, hB⟩ : ∃ B, B = w.heap.size := ⟨_, rfl⟩
  obtain ⟨w3, hw3⟩ : ∃ w3, w3 = w.alloc (.cells #[.int .i64 n] 3) := ⟨_, rfl⟩
  have hb3 : Below w.heap.size w w3 := by subst hw3; exact (Below.refl _ w).alloc (Nat.le_refl _) _
  have k0 : w3.cell? ⟨B, 0, none⟩ = some (.int .i64 n) := by subst hw3 hB; exact cell_box _ _ _
  have i3 := h.below hb3
  have hwhy := refusal39 F p S w3 i3 _ _ (why39 w3 B n k0 hn)
  obtain ⟨r, hr⟩ : ∃ r, r = (if S.dead = true then (2 : Int) else if n < 0 then 1 else 0) := ⟨_, rfl⟩
  rw [← hr] at hwhy
  have HH := Lib.hid (And.intro h (And.intro hb3 (And.intro k0 (And.intro i3 (And.intro hcv (And.intro hG (And.intro hci hF)))))))
  have HR := Lib.hid hr
  have HY := Lib.hid hwhy
  have HW3 := Lib.hid hw3
  have HB := Lib.hid hB
  have HN := Lib.hid hnn
  clear h hb3 k0 i3 hr hwhy hw3 hB hcv hG hci hnn hF
  by_cases hz : r = 0
  · subst hz
    have hrr := HR.out
    have q1 : ¬ S.dead = true := fun q => by rw [if_pos q] at hrr; omega
    rw [if_neg q1] at hrr
    have q2 : ¬ n < 0 := fun q => by rw [if_pos q] at hrr; omega
    by_cases n0 : n = 0
    · subst n0
      have ewr : S.arm 0 ch = ({ S with armed := 0, ch := [] }, 0) := by unfold St.arm; rw [if_neg q1, if_neg q2, if_pos rfl]
      rw [ewr]
      clear q1 q2 hrr ewr hn
      go_enter Tryz.func11, Tryz.ntmps11
      go_wp2_with (fail)
      rw [← HB.out, ← HW3.out]
      refine HY.out.mono ?_
      rintro e w4 ⟨rfl, hb4⟩
      have hb04 : Below w.heap.size w w4 := HH.out.2.1.trans (hb4.mono HH.out.2.1.size)
      have kd := disarm_any F p S w4 (HH.out.1.below hb04)
      have b0 := cell_below HH.out.2.2.1 hb4
      have hl4 := HH.out.1.lt.1
      have hBp : B ≠ p := by rw [HB.out]; omega
      have HB4 := Lib.hid (And.intro hb04 hBp)
      have HBK : Hid (∀ W, Ch F w4 W → W.cell? ⟨B, 0, none⟩ = w4.cell? ⟨B, 0, none⟩) := fun W hW => by
        have hl := block_lt_of_cell b0
        simp only [World.cell?, hW.block B hl (fun q => by have := HH.out.2.2.2.2.2.2.2 B q; rw [HB.out] at this; omega)]
      clear hb04 hl4 hBp
      go_wp2_with (fail)
      refine kd.mono ?_
      rintro e w5 ⟨rfl, i5, c5, s5⟩
      have b5 : w5.cell? ⟨B, 0, none⟩ = some (.int .i64 0) := (HBK.out w5 c5).trans b0
      go_wp2
      go_ret
      exact ⟨rfl, To.after_below HB4.out.1 ⟨F, i5, Gr.refl _ _ _, c5⟩⟩
    · obtain ⟨a, ha⟩ : ∃ a : Nat, n = (a : Int) := ⟨n.toNat, by omega⟩
      subst ha
      have ewr : S.arm (a : Int) ch = ({ S with armed := a, ch := ch.take S.count }, 0) := by unfold St.arm; rw [if_neg q1, if_neg q2, if_neg n0, Int.toNat_natCast]
      rw [ewr]
      have hap : (0 : Int) < (a : Int) := by omega
      have han : a < 9223372036854775808 := by omega
      clear q1 q2 hrr ewr hn n0
      go_enter Tryz.func11, Tryz.ntmps11
      go_wp2_with (fail)
      rw [← HB.out, ← HW3.out]
      refine HY.out.mono ?_
      rintro e w4 ⟨rfl, hb4⟩
      have hb04 : Below w.heap.size w w4 := HH.out.2.1.trans (hb4.mono HH.out.2.1.size)
      have i4 := HH.out.1.below hb04
      have kd := disarm_own F p S w4 i4
      have b0 := cell_below HH.out.2.2.1 hb4
      have HB4 := Lib.hid hb04
      have HBK : Hid (∀ W, Ch F w4 W → W.cell? ⟨B, 0, none⟩ = w4.cell? ⟨B, 0, none⟩) := fun W hW => by
        have hl := block_lt_of_cell b0
        simp only [World.cell?, hW.block B hl (fun q => by have := HH.out.2.2.2.2.2.2.2 B q; rw [HB.out] at this; omega)]
      have HCV : Hid (CV w4 G (.slice q nn cap0) ch) := HH.out.2.2.2.2.1.below hb04
      clear hb04 i4
      go_wp2_with (fail)
      refine kd.mono ?_
      rintro e w5 ⟨rfl, i5, c5, s5, o5⟩
      have b5 : w5.cell? ⟨B, 0, none⟩ = some (.int .i64 (a : Int)) := (HBK.out w5 c5).trans b0
      obtain ⟨sb, cap, mb, cv, hd, hc, h1, h2, h3⟩ := i5
      have f3 := hd.cells.2.2.2.2.2 3
      have c3 := hd.cells.2.2.2.1
      have d6 := hd.set3 a han
      obtain ⟨w6, hw6⟩ : ∃ w6, w6 = w5.setCell ⟨p, 3, none⟩ (.int .i64 (a : Int)) := ⟨_, rfl⟩
      rw [← hw6] at d6
      have i6 : IsD w6 F p { S with armed := a, ch := [] } := ⟨sb, cap, mb, cv, d6, by rw [hw6]; exact hc.setCell (fun k hk => hk.2.1) _, h1, h2, h3⟩
      have c6 : Ch F w4 w6 := by rw [hw6]; exact c5.setCell h1 _ _
      have s6 : w6.heap.size = w4.heap.size := by rw [hw6, setCell_size, s5]
      have kc := count_any F p _ w6 i6
      change Calls Tryz.prog 42 #[.pointer (some ⟨p, 0, none⟩)] w6 fun e w' => e = .returned (.int .i64 (S.count : Int)) ∧ w6 = w' at kc
      obtain ⟨m, hm⟩ : ∃ m, m = min nn S.count := ⟨_, rfl⟩
      have hmm : min (nn : Int) (S.count : Int) = (m : Int) := by omega
      have hnl := HN.out
      have HMV : Hid (m ≤ nn ∧ ch.take m = ch.take S.count) := ⟨by omega, by
        rw [hm, hnl]
        by_cases q : ch.length ≤ S.count
        · rw [Nat.min_eq_left q, List.take_length, List.take_of_length_le q]
        · rw [Nat.min_eq_right (by omega)]⟩
      have hcv6 : CV w6 G (.slice q m cap0) (ch.take m) := by
        have e4 : CV w6 G (.slice q nn cap0) ch := HCV.out.of_heap (by omega) (fun k hk hkG => by
          have hkp := HH.out.2.2.2.2.2.1 k hkG
          rw [hw6, block_setCell_other hkp]; exact o5 k hkp)
        exact e4.take m (by omega)
      have hmcap : m ≤ cap0 := by omega
      have kcl := cloneI_any G _ _ w6 hcv6 (by simp; have := i6.ok.hi; change S.count ≤ 4096 at this; omega)
      have c4' := d6.cells.2.2.2.2.1
      have HD6 := Lib.hid (And.intro d6 (And.intro i6 (And.intro c6 (And.intro s6 (And.intro h1 (And.intro h2 h3))))))
      have hw6s : w5.setCell ⟨p, 3, none⟩ (.int .i64 (a : Int)) = w6 := hw6.symm
      have HKL := Lib.hid kcl
      have f4 := HD6.out.1.cells.2.2.2.2.2 4
      clear hd hc h1 h2 h3 d6 i6 c6 s6 hcv6 hm hnl c5 s5 hw6 o5 kcl kd b0
      go_wp2_with (go_at_call 42; refine kc.mono ?_; rintro e w' ⟨rfl, rfl⟩)
      refine HKL.out.mono ?_
      rintro e w8 ⟨v', rfl, hcv8, hb8⟩
      have hcv8' := hcv8
      obtain ⟨q8, cap8, hv8, _⟩ := hcv8'
      have d8 := HD6.out.1.below hb8
      have f4 := d8.cells.2.2.2.2.2 4
      have c4 := d8.cells.2.2.2.2.1
      have hok8 : ∀ x ∈ ch.take m, -9223372036854775808 ≤ x ∧ x < 9223372036854775808 := fun x hx => HH.out.2.2.2.2.2.2.1 x (List.mem_of_mem_take hx)
      have d9 := d8.set4 v' (ch.take m) hok8 (by rw [HMV.out.2]; simp; have := HD6.out.1.ok.hi; change S.count ≤ 4096 at this; omega)
      have hG8 : ∀ k, w6.heap.size ≤ k → k ≠ p ∧ k ≠ sb ∧ k ≠ mb := fun k hk => by
        have h1 := block_lt HD6.out.1.blk
        have h2 := HD6.out.1.row.lt
        have h3 := HD6.out.1.map.lt
        omega
      have hs8 := hb8.size
      have i9 : IsD (w8.setCell ⟨p, 4, none⟩ v') (fun k => F k ∨ (w6.heap.size ≤ k ∧ k < w8.heap.size)) p { S with armed := a, ch := ch.take S.count } := by
        rw [← HMV.out.2]
        refine ⟨sb, cap, mb, v', d9, ?_, .inl HD6.out.2.2.2.2.1, .inl HD6.out.2.2.2.2.2.1, .inl HD6.out.2.2.2.2.2.2⟩
        refine CV.mono ((hcv8.lt).setCell (a := ⟨p, 4, none⟩) (fun k hk => (hG8 k hk.1).1) v') (fun k hk => ⟨.inr hk, hG8 k hk.1⟩)
      have c9 : Ch F w4 (w8.setCell ⟨p, 4, none⟩ v') := (HD6.out.2.2.1.then_below hb8).setCell HD6.out.2.2.2.2.1 _ _
      have g9 : Gr F (fun k => F k ∨ (w6.heap.size ≤ k ∧ k < w8.heap.size)) w4 (w8.setCell ⟨p, 4, none⟩ v') := fun k hk => by
        rcases hk with hk | hk
        · exact .inl hk
        · right; rw [setCell_size]; have := HD6.out.2.2.2.1; omega
      have HX := Lib.hid (And.intro i9 (And.intro c9 g9))
      generalize (ch.take m).length = L8 at hv8
      rw [hv8] at HX ⊢
      clear d8 hok8 d9 hG8 hs8 i9 c9 g9 hcv8 hb8 b5 c3 f3 kc hmm hmcap c4' hw6s hv8
      go_wp2
      go_ret
      exact ⟨rfl, To.after_below HB4.out ⟨_, HX.out.1, HX.out.2.2, HX.out.2.1⟩⟩
  · have ewr : S.arm n ch = (S, r) := by
      unfold St.arm
      have hrr := HR.out
      split
      · rename_i q; rw [if_pos q] at hrr; rw [hrr]
      · rename_i q; rw [if_neg q] at hrr
        split
        · rename_i q; rw [if_pos q] at hrr; rw [hrr]
        · rename_i q; rw [if_neg q] at hrr; exact absurd hrr hz
    rw [ewr]
    go_enter Tryz.func11, Tryz.ntmps11
    go_wp2_with (fail)
    rw [← HB.out, ← HW3.out]
    refine HY.out.mono ?_
    rintro e w4 ⟨rfl, hb4⟩
    clear hn
    go_wp2
    go_ret
    exact ⟨rfl, To.of_below HH.out.1 (HH.out.2.1.trans (hb4.mono HH.out.2.1.size))⟩
set_option maxRecDepth 20000 in
set_option maxHeartbeats 1000000 in
theorem new_any (s : ByteArray) (w : World) (hs : s.size ≤ 140737488355328) :
    Calls Tryz.prog 7 #[.string s] w fun e w' => Below w.heap.size w w' ∧ if s.size = 0 ∨ s.size % 128 ≠ 0 ∨ 524288 < s.size then e = .returned (.tuple #[.pointer none, .int .i64 70])
      else ∃ F p, e = .returned (.tuple #[.pointer (some ⟨p, 0, none⟩), .int .i64 0]) ∧ IsD w' F p (newS s.data.toList) ∧ ∀ k, F k → w.heap.size ≤ k ∧ k < w'.heap.size := by
  by_cases a : s.size = 0
  · simp only [if_pos (show s.size = 0 ∨ s.size % 128 ≠ 0 ∨ 524288 < s.size from .inl a)]
    go_enter Tryz.func7, Tryz.ntmps7
    go_wp2
    go_ret2
    exact ⟨Below.refl _ _, rfl⟩
  · have hse : ¬ s = ByteArray.empty := fun e => a (by rw [e]; rfl)
    by_cases b : s.size % 128 = 0
    · by_cases c : 524288 < s.size
      · simp only [if_pos (show s.size = 0 ∨ s.size % 128 ≠ 0 ∨ 524288 < s.size from .inr (.inr c))]
        obtain ⟨r, hr⟩ : ∃ r : Nat, r = s.size % 128 := ⟨_, rfl⟩
        have et : (s.size : Int).tmod 128 = (r : Int) := by rw [Int.tmod_eq_emod_of_nonneg (by omega)]; omega
        have hrz : (r : Int) = 0 := by omega
        clear hr
        have c' : (524288 : Int) < (s.size : Int) := by omega
        have a' : ¬ (s.size : Int) = 0 := by omega
        clear a b c
        go_enter Tryz.func7, Tryz.ntmps7
        go_wp2
        go_ret2
        exact ⟨Below.refl _ _, rfl⟩
      · simp only [if_neg (show ¬ (s.size = 0 ∨ s.size % 128 ≠ 0 ∨ 524288 < s.size) by omega)]
        obtain ⟨cap, w1, hcv, hrow, hb1, hs1⟩ := RowB.made w s hs
        have hmade := MapA.made w1 (s.size / 128)
        have hmm := @run_makeMap Tryz.prog
        have hb2 : Below w.heap.size w (w1.alloc (.map #[] 0)) := hb1.alloc (by omega) _
        obtain ⟨w3, hw3⟩ : ∃ w3, w3 = (w1.alloc (.map #[] 0)).alloc (.cells (dcells w.heap.size s.size cap w1.heap.size false 0 (.slice none 0 0)) 80) := ⟨_, rfl⟩
        have hsz2 : (w1.alloc (.map #[] 0)).heap.size = w1.heap.size + 1 := by simp
        have hb3 : Below w.heap.size w w3 := by rw [hw3]; exact hb2.alloc (by omega) _
        have hp3 : w3.heap[w1.heap.size + 1]? = some (.cells (dcells w.heap.size s.size cap w1.heap.size false 0 (.slice none 0 0)) 80 (0, 0)) := by rw [hw3, ← hsz2]; exact block_new _ _
        have hok : (newS s.data.toList).ok := St.ok.new (by rw [baList]; exact a) (by rw [baList]; exact b) (by rw [baList]; omega)
        have hcount : (newS s.data.toList).count = s.size / 128 := by show s.data.toList.length / 128 = _; rw [baList]
        have hd : D w3 (w1.heap.size + 1) w.heap.size cap w1.heap.size (.slice none 0 0) (newS s.data.toList) := by
          refine ⟨?_, ?_, ?_, hok, by omega⟩
          · rw [hp3]; show some (Obj.cells (dcells w.heap.size s.size cap w1.heap.size false 0 (.slice none 0 0)) 80 (0, 0)) = some (Obj.cells (dcells w.heap.size s.data.toList.length cap w1.heap.size false 0 (.slice none 0 0)) 80 (0, 0)); rw [baList]
          · refine (hrow.of_heap (w' := w1.alloc (.map #[] 0)) (Below.heap_alloc _ _ _ hrow.lt)).of_heap ?_
            rw [hw3]; exact Below.heap_alloc _ _ _ (by omega)
          · rw [hcount]; refine hmade.of_heap ?_; rw [hw3]; exact Below.heap_alloc _ _ _ (by omega)
        have HX : Hid (Below w.heap.size w w3 ∧ IsD w3 (fun k => w.heap.size ≤ k ∧ k < w3.heap.size) (w1.heap.size + 1) (newS s.data.toList)) := ⟨hb3, _, _, _, _, hd, CV.nil _ _, ⟨by omega, block_lt hp3⟩, ⟨by omega, by have := block_lt hp3; omega⟩, ⟨by omega, by have := block_lt hp3; omega⟩⟩
        have HW := Lib.hid hw3
        have HSZ := Lib.hid (And.intro hsz2 hs1)
        obtain ⟨r, hr⟩ : ∃ r : Nat, r = s.size % 128 := ⟨_, rfl⟩
        have et : (s.size : Int).tmod 128 = (r : Int) := by rw [Int.tmod_eq_emod_of_nonneg (by omega)]; omega
        have hrz : (r : Int) = 0 := by omega
        clear hr
        have c' : ¬ (524288 : Int) < (s.size : Int) := by omega
        have a' : ¬ (s.size : Int) = 0 := by omega
        clear hrow hmade hb2 hb3 hp3 hok hcount hd hsz2 hb1 hs1 hw3 a b c hs
        go_enter Tryz.func7, Tryz.ntmps7
        go_wp2
        go_ret2
        have hx := HX.out
        rw [HW.out] at hx
        exact ⟨hx.1, _, _, rfl, hx.2, fun k hk => hk⟩
    · simp only [if_pos (show s.size = 0 ∨ s.size % 128 ≠ 0 ∨ 524288 < s.size from .inr (.inl b))]
      obtain ⟨r, hr⟩ : ∃ r : Nat, r = s.size % 128 := ⟨_, rfl⟩
      have et : (s.size : Int).tmod 128 = (r : Int) := by rw [Int.tmod_eq_emod_of_nonneg (by omega)]; omega
      have hrz : ¬ (r : Int) = 0 := by omega
      clear hr
      have a' : ¬ (s.size : Int) = 0 := by omega
      clear a b hs
      go_enter Tryz.func7, Tryz.ntmps7
      go_wp2
      go_ret2
      exact ⟨Below.refl _ _, rfl⟩
end Go.Proofs.YtjippoejaieneaaGreat

/- Calls and choices that came in, as they lie in memory. Conditions: no list is longer than a machine holds. -/
namespace Go.Proofs.YtjippoejaieneaaGreat
open Go.ChangeShapes Go.WideShapes Go.ChangeAt Go.RowKit Go.Deep
set_option maxRecDepth 20000
set_option linter.unusedVariables false

theorem Tryz.cellsOf3 : Tryz.prog.cellsOf 3 = 1 := by kernel_rfl
theorem Tryz.cellsOf5 : Tryz.prog.cellsOf 5 = 1 := by kernel_rfl
theorem Tryz.cellsOf9 : Tryz.prog.cellsOf 9 = 1 := by kernel_rfl
theorem Tryz.cellsOf25 : Tryz.prog.cellsOf 25 = 1 := by kernel_rfl
theorem Tryz.bytesOf3 : Tryz.prog.bytesOf 3 = 8 := by kernel_rfl
theorem mem_all {H : Type} {P : Program} {e : TypeId} : ∀ {ds : List (DataW H)} {d : DataW H}, d ∈ ds → ∀ n ∈ d.weights P e, n ∈ DataW.weightsAll P e ds
  | [], _, h, _, _ => by cases h
  | x :: r, d, h, n, hn => by
    rw [DataW.weightsAll, List.mem_append]
    rcases List.mem_cons.1 h with rfl | h
    · exact .inl hn
    · exact .inr (mem_all h n hn)
theorem add_block (a : Addr) (k : Nat) : (a.add k).block = a.block := by unfold Addr.add; split <;> rfl
theorem add_add' (a : Addr) (i j : Nat) : (a.add i).add j = a.add (i + j) := by
  unfold Addr.add
  by_cases hi : i = 0
  · subst hi; simp
  · by_cases hj : j = 0
    · subst hj; simp
    · rw [if_neg hi, if_neg hj, if_neg (by omega)]; simp [Nat.add_assoc]
def In64 (x : Int) : Prop := -9223372036854775808 ≤ x ∧ x < 9223372036854775808
theorem wf_i64 {a : Int} (h : (Lit.int IntKind.i64 a).wf = true) : In64 a := by
  simp [Lit.wf, IntKind.max, IntKind.min, IntKind.signed, IntKind.bits] at h
  unfold In64; omega
theorem wf_u8 {a : Int} (h : (Lit.int IntKind.u8 a).wf = true) : 0 ≤ a ∧ a < 256 := by
  simp [Lit.wf, IntKind.max, IntKind.min, IntKind.signed, IntKind.bits] at h
  omega
/-- choices that came in -/
def ChOk (W : World) (v : Value) (ch : List Int) : Prop := CV W (fun b => b < W.heap.size) v ch ∧ (∀ x ∈ ch, In64 x) ∧ ch.length ≤ 17592186044416
theorem ChOk.below {W W' : World} {v : Value} {ch : List Int} (h : ChOk W v ch) (hb : Below W.heap.size W W') : ChOk W' v ch :=
  ⟨(h.1.below hb).mono (fun k hk => Nat.lt_of_lt_of_le hk hb.size), h.2⟩
set_option maxRecDepth 100000 in
theorem trod_ints {H : Type} {enc : TypeId × Value → H} {W : World} {base : Nat} {held : Bool} {fuel : Nat} {c : Value} {x : DataW H × List MemPlace}
    (h : DataW.trod enc Tryz.prog W base (fun _ => true) held fuel 25 [c] = some x) (hwt : ∀ u ∈ x.1.weights Tryz.prog 25, u ≤ reachBytes) : ∃ ch, ChOk W c ch := by
  rcases DataW.trod_slice Tryz.underlying25 h with ⟨hcs, _⟩ | ⟨a, len, cap, elems, rest, m, hm, hcs, hx, hb, hlc, hcm, hel, hev, _, _⟩
  · simp at hcs
    subst hcs
    exact ⟨[], CV.nil _ _, (fun x hx => nomatch hx), Nat.zero_le _⟩
  · simp at hcs
    subst hcs
    rw [hx, DataW.weights, Tryz.underlying25] at hwt
    have hfew : (elems.length + rest.length) * Tryz.prog.bytesOf 3 ≤ reachBytes := by
      have := hwt _ (List.mem_cons_self ..)
      simpa using this
    rw [Tryz.bytesOf3] at hfew
    have hR := reachBytes_lt
    have each : ∀ i, i < len → ∃ q : Int, W.cell? (a.add i) = some (.int .i64 q) ∧ In64 q := by
      intro i hi
      have he := hev i hi
      rw [Tryz.cellsOf3] at he
      obtain ⟨cs', hc', ht'⟩ := Option.bind_eq_some_iff.1 (he.trans (List.getElem?_eq_getElem (by omega)))
      obtain ⟨_, hlen', hcell⟩ := World.cells?_some hc'
      obtain ⟨q, e0, _, w0⟩ := DataW.trod_int Tryz.underlying3 ht'
      subst e0
      have := hcell 0 (by omega)
      simp [add_add'] at this
      exact ⟨q, this, wf_i64 w0⟩
    obtain ⟨q, hq⟩ := choose_lt each
    have e1 : ((List.range len).map q).length = len := by simp
    refine ⟨(List.range len).map q, ⟨some a, cap, by rw [e1], by rw [e1]; exact hlc, fun hne => ?_⟩, fun x hx => ?_, by rw [e1]; omega⟩
    · have hl0 : 0 < len := by
        rcases Nat.eq_zero_or_pos len with e | e
        · subst e; simp at hne
        · exact e
      obtain ⟨b, o, spot⟩ := a
      have hz := (hq 0 hl0).1
      have hspot : spot = none := by simpa [Addr.add] using World.cell?_spot hz
      subst hspot
      refine ⟨b, o, rfl, ?_, ?_, fun j hj => ?_⟩
      · exact World.block_lt_of_cell? W _ hz
      · exact World.block_lt_of_cell? W _ hz
      · rw [e1] at hj
        have := (hq j hj).1
        rw [addr_at] at this
        rw [this]
        simp [List.getD, hj]
    · obtain ⟨i, hi, rfl⟩ := List.mem_map.1 hx
      exact (hq i (List.mem_range.1 hi)).2
theorem ints_of {H : Type} {enc : TypeId × Value → H} {W : World} {base : Nat} {v : Value} {d : DataW H} {p : List MemPlace} {held : Bool}
    (h : DataW.Trod enc Tryz.prog W base (fun _ => true) held 25 v d p) (hv : ∃ ao len cap, v = .slice ao len cap) (hwt : ∀ u ∈ d.weights Tryz.prog 25, u ≤ reachBytes) : ∃ ch, ChOk W v ch := by
  obtain ⟨ao, len, cap, rfl⟩ := hv
  obtain ⟨fuel, hf⟩ := h
  exact trod_ints (c := .slice ao len cap) (by simpa [Value.cells] using hf) hwt
end Go.Proofs.YtjippoejaieneaaGreat

/- Rows of one byte, sectors that are written, remainders: what the calls return. No conditions but sizes. -/
namespace Go.Proofs.YtjippoejaieneaaGreat
open Go.RowKit Go.Maps
set_option maxRecDepth 20000
set_option linter.unusedVariables false

theorem RowB.zeros (w : World) (n : Nat) (hn : n ≤ maxLen) : RowB (w.alloc (.cells (List.replicate n (Value.int .u8 0)).toArray 5)) w.heap.size n (List.replicate n 0) := by
  refine ⟨_, (0, 0), block_new _ _, .inl rfl, by simp, hn, by simp, ?_⟩
  simp [cellB]
theorem make57 (n : Nat) (hn : n ≤ 524288) (w : World) : (Instr.makeSlice 77 (.int .i64 (n : Int)) (.int .i64 (n : Int))).run Tryz.prog w = .ok (.slice (some ⟨w.heap.size, 0, none⟩) n n) (w.alloc (.cells (List.replicate n (Value.int .u8 0)).toArray 5)) := by
  obtain ⟨i0, hi, hz0, hz1, hz2⟩ := info_parts Tryz.info5
  have h := run_make (P := Tryz.prog) w 77 5 i0 (.int .u8 0) Tryz.underlying77 hi hz0 .i64 .i64 (n : Int) (n : Int) (by omega) (by omega) (by rw [hz2]; omega) (by omega)
  rw [hz1] at h
  have e : madeCells (Value.int .u8 0).cells (((n : Int)).toNat * 1) = (List.replicate n (Value.int .u8 0)).toArray := by
    apply Array.ext
    · simp [madeCells]
    · intro i h1 h2
      simp [madeCells, Value.cells, Nat.mod_one]
  rw [e] at h
  simpa using h
set_option maxHeartbeats 400000 in
theorem noughts_any (n : Nat) (hn : n ≤ 524288) (w : World) : Calls Tryz.prog 37 #[.int .i64 (n : Int)] w fun e w' => e = .returned (.string (ofL (List.replicate n 0))) ∧ Below w.heap.size w w' := by
  have hm := make57 n hn w
  have hr := RowB.zeros w n (by unfold maxLen; omega)
  have hc := hr.string (w' := w) 0 n n (by simp)
  rw [List.drop_zero, List.take_of_length_le (by simp)] at hc
  have hb : Below w.heap.size w (w.alloc (.cells (List.replicate n (Value.int .u8 0)).toArray 5)) := (Below.refl _ w).alloc (Nat.le_refl _) _
  have HB := Lib.hid hb
  clear hr hb hn
  generalize w.alloc (.cells (List.replicate n (Value.int .u8 0)).toArray 5) = W at *
  generalize (List.replicate n (0 : UInt8)) = L at *
  go_enter Tryz.func37, Tryz.ntmps37
  go_wp2
  go_ret
  exact ⟨rfl, HB.out⟩
def byte (c : Int) : UInt8 := UInt8.ofNat c.toNat
theorem byte_cell {c : Int} (h : 0 ≤ c ∧ c < 256) : cellB (byte c) = .int .u8 c := by
  unfold cellB byte
  congr 1
  have : (UInt8.ofNat c.toNat).toNat = c.toNat := by simp; omega
  rw [this]; omega
theorem RowB.set {w : World} {g cap : Nat} {l : Bts} (h : RowB w g cap l) (i : Nat) (hi : i < l.length) (b : UInt8) : RowB (w.setCell ⟨g, i, none⟩ (cellB b)) g cap (l.set i b) := by
  obtain ⟨cur, fr, hg, hp, h1, h2, h3, h4⟩ := h
  refine ⟨cur.setIfInBounds i (cellB b), fr, block_setCell hg, by unfold Past at *; simpa using hp, by simpa using h1, h2, by simpa using h3, ?_⟩
  rw [Array.toList_setIfInBounds, List.length_set, List.take_set, h4, List.map_set]
theorem RowB.free {w : World} {g cap : Nat} {l : Bts} (h : RowB w g cap l) (i : Nat) (hi : i < l.length) : w.frozen? ⟨g, i, none⟩ = false := by
  obtain ⟨cur, fr, hg, hp, h1, h2, h3, h4⟩ := h
  exact hp.free hg i (by omega)
set_option maxHeartbeats 400000 in
theorem rem_any (n m : Int) (hn : In64 n) (hm : 0 < m ∧ m < 4611686018427387904) (w : World) : Calls Tryz.prog 10 #[.int .i64 n, .int .i64 m] w fun e w' => e = .returned (.int .i64 (n % m)) ∧ w = w' := by
  unfold In64 at hn
  obtain ⟨t, ht⟩ : ∃ t, t = n.tmod m := ⟨_, rfl⟩
  have h1 : n.tmod m = t := ht.symm
  have h2 : n % m = if t < 0 then t + m else t := by
    rw [ht, Int.tmod_eq_emod]
    have e0 := Int.emod_nonneg n (show m ≠ 0 by omega)
    have e1 := Int.emod_lt_of_pos n hm.1
    have e2 : (m.natAbs : Int) = m := by omega
    by_cases hd : 0 ≤ n ∨ m ∣ n
    · rw [if_pos hd, if_neg (by omega)]; omega
    · rw [if_neg hd, e2]
      have : n % m ≠ 0 := fun q => hd (.inr (Int.dvd_of_emod_eq_zero q))
      rw [if_pos (by omega)]; omega
  have h3 : -m ≤ t ∧ t < m := by
    have e0 := Int.emod_nonneg n (show m ≠ 0 by omega)
    have e1 := Int.emod_lt_of_pos n hm.1
    by_cases q : t < 0
    · rw [if_pos q] at h2; omega
    · rw [if_neg q] at h2; omega
  have hm0 : ¬ m = 0 := by omega
  clear ht
  rw [h2]
  have hw : wrap64 t = t := by unfold wrap64; omega
  have hwi : IntKind.i64.wrap t = t := by rw [IntKind.wrap_i64]; omega
  by_cases q : t < 0
  · rw [if_pos q]
    have hw2 : wrap64 (t + m) = t + m := by unfold wrap64; omega
    clear h2 h3
    go_enter Tryz.func10, Tryz.ntmps10
    go_wp2
    go_ret
    exact ⟨ret_int hw2, rfl⟩
  · rw [if_neg q]
    clear h2 h3
    go_enter Tryz.func10, Tryz.ntmps10
    go_wp2
    go_ret
    exact ⟨rfl, rfl⟩
def Bad (s : ByteArray) : Prop := s.size = 0 ∨ s.size % 128 ≠ 0 ∨ 524288 < s.size
end Go.Proofs.YtjippoejaieneaaGreat

/- A disk behind writes and flushes: what the call returns. Conditions: sizes that a machine holds. -/
namespace Go.Proofs.YtjippoejaieneaaGreat
open Go.RowKit Go.Maps
set_option maxRecDepth 20000
set_option linter.unusedVariables false

/-- a disk of so many bytes, with power, nothing armed -/
structure Calm (n : Nat) (S : St) : Prop where
  ok : S.ok
  dead : S.dead = false
  armed : S.armed = 0
  len : S.safe.length = n
theorem Calm.change {n : Nat} {S : St} (h : Calm n S) : S.change = (S, 0) := by unfold St.change; rw [if_pos h.armed]
theorem Calm.write {n : Nat} {S : St} (h : Calm n S) (i : Int) (s : Bts) : Calm n (S.write i s).1 := by
  refine ⟨(h.ok.write i s).1, ?_, ?_, ?_⟩ <;> unfold St.write <;> rw [if_neg (by rw [h.dead]; decide)] <;> split <;> try (first | exact h.dead | exact h.armed | exact h.len)
  all_goals
    split
    · first | exact h.dead | exact h.armed | exact h.len
    · unfold St.change
      rw [if_pos (show (S.put i.toNat s).armed = 0 from h.armed)]
      first | exact h.dead | exact h.armed | exact h.len
theorem Calm.flush {n : Nat} {S : St} (h : Calm n S) (f m : Int) : Calm n (S.flush f m).1 := by
  have hok := (h.ok.flush f m).1
  have hl : ∀ a b, (S.calm a b).safe.length = n := fun a b => by rw [S.calm_len h.ok, ← h.len, h.ok.len]
  refine ⟨hok, ?_, ?_, ?_⟩ <;> unfold St.flush <;> rw [if_neg (by rw [h.dead]; decide)] <;> split <;> try (first | exact h.dead | exact h.armed | exact h.len)
  all_goals
    rw [h.change]
    first | exact h.dead | exact h.armed | exact hl _ _
theorem Calm.new {s : ByteArray} (h : ¬ Bad s) : Calm s.size (newS s.data.toList) := by
  unfold Bad at h
  exact ⟨St.ok.new (by rw [baList]; omega) (by rw [baList]; omega) (by rw [baList]; omega), rfl, rfl, baList s⟩
/-- a disk whose blocks all lie above B -/
def At (w : World) (B p : Nat) (S : St) : Prop := ∃ F, IsD w F p S ∧ ∀ k, F k → B ≤ k ∧ k < w.heap.size
theorem At.of_to {w w' : World} {B p : Nat} {S S' : St} {F : Nat → Prop} (hF : ∀ k, F k → B ≤ k ∧ k < w.heap.size) (hB : B ≤ w.heap.size) (h : To F w w' p S') : At w' B p S' ∧ Below B w w' := by
  obtain ⟨F', d, g, c⟩ := h
  exact ⟨⟨F', d, fun k hk => by rcases g k hk with q | q; exact ⟨(hF k q).1, Nat.lt_of_lt_of_le (hF k q).2 c.size⟩; exact ⟨by omega, q.2⟩⟩, c.below hB (fun k hk => (hF k hk).1)⟩
theorem At.below {w w' : World} {B p : Nat} {S : St} (h : At w B p S) (hb : Below w.heap.size w w') : At w' B p S := by
  obtain ⟨F, d, g⟩ := h
  exact ⟨F, d.below hb, fun k hk => ⟨(g k hk).1, Nat.lt_of_lt_of_le (g k hk).2 hb.size⟩⟩
theorem write_at (B p : Nat) (S : St) (w : World) (h : At w B p S) (hB : B ≤ w.heap.size) (i : Int) (s : ByteArray) (hi : In64 i) (hsz : s.size ≤ 281474976710656) :
    Calls Tryz.prog 138 #[.pointer (some ⟨p, 0, none⟩), .int .i64 i, .string s] w fun e w' => e = .returned (.int .i64 (S.write i s.data.toList).2) ∧ At w' B p (S.write i s.data.toList).1 ∧ Below B w w' := by
  obtain ⟨F, d, g⟩ := h
  exact (write_any F p S w d i s hi hsz).mono fun e w' q => ⟨q.1, At.of_to (S := S) g hB q.2⟩
theorem flush_at (B p : Nat) (S : St) (w : World) (h : At w B p S) (hB : B ≤ w.heap.size) (f n : Int) (hf : In64 f) (hn : In64 n) :
    Calls Tryz.prog 122 #[.pointer (some ⟨p, 0, none⟩), .int .i64 f, .int .i64 n] w fun e w' => e = .returned (.int .i64 (S.flush f n).2) ∧ At w' B p (S.flush f n).1 ∧ Below B w w' := by
  obtain ⟨F, d, g⟩ := h
  exact (flush_any F p S w d (fun k hk => (g k hk).2) f n hf hn).mono fun e w' q => ⟨q.1, At.of_to (S := S) g hB q.2⟩
theorem crash_at (B p : Nat) (S : St) (w : World) (h : At w B p S) (hB : B ≤ w.heap.size) (G : Nat → Prop) (v : Value) (ch : List Int) (hcv : CV w G v ch) :
    Calls Tryz.prog 32 #[.pointer (some ⟨p, 0, none⟩), v] w fun e w' => e = .returned (.int .i64 (S.crash ch).2) ∧ At w' B p (S.crash ch).1 ∧ Below B w w' := by
  obtain ⟨F, d, g⟩ := h
  exact (crash_any F p S w d G v ch hcv).mono fun e w' q => ⟨q.1, At.of_to (S := S) g hB q.2⟩
theorem revive_at (B p : Nat) (S : St) (w : World) (h : At w B p S) (hB : B ≤ w.heap.size) :
    Calls Tryz.prog 19 #[.pointer (some ⟨p, 0, none⟩)] w fun e w' => e = .returned (.tuple #[]) ∧ At w' B p S.revive ∧ Below B w w' := by
  obtain ⟨F, d, g⟩ := h
  exact (revive_any F p S w d).mono fun e w' q => ⟨q.1, At.of_to (S := S) g hB ⟨F, q.2.1, Gr.refl _ _ _, q.2.2.1⟩⟩
theorem arm_at (B p : Nat) (S : St) (w : World) (h : At w B p S) (hB : B ≤ w.heap.size) (n : Int) (hn : In64 n) (G : Nat → Prop) (v : Value) (ch : List Int) (hcv : CV w G v ch) (hG : ∀ k, G k → k < B) (hci : ∀ x ∈ ch, In64 x) :
    Calls Tryz.prog 11 #[.pointer (some ⟨p, 0, none⟩), .int .i64 n, v] w fun e w' => e = .returned (.int .i64 (S.arm n ch).2) ∧ At w' B p (S.arm n ch).1 ∧ Below B w w' := by
  obtain ⟨F, d, g⟩ := h
  exact (arm_any F p S w d (fun k hk => (g k hk).2) n hn G v ch hcv (fun k hk => by have := (g p d.lt.2).1; have := hG k hk; omega) hci).mono fun e w' q => ⟨q.1, At.of_to (S := S) g hB q.2⟩
theorem new_at (s : ByteArray) (w : World) (hs : s.size ≤ 140737488355328) (h : ¬ Bad s) :
    Calls Tryz.prog 7 #[.string s] w fun e w' => ∃ p, e = .returned (.tuple #[.pointer (some ⟨p, 0, none⟩), .int .i64 0]) ∧ At w' w.heap.size p (newS s.data.toList) ∧ Below w.heap.size w w' := by
  refine (new_any s w hs).mono fun e w' q => ?_
  unfold Bad at h
  rw [if_neg h] at q
  obtain ⟨hb, F, p, he, hd, hF⟩ := q
  exact ⟨p, he, ⟨F, hd, hF⟩, hb⟩
theorem new_bad (s : ByteArray) (w : World) (hs : s.size ≤ 140737488355328) (h : Bad s) :
    Calls Tryz.prog 7 #[.string s] w fun e w' => e = .returned (.tuple #[.pointer none, .int .i64 70]) ∧ Below w.heap.size w w' := by
  refine (new_any s w hs).mono fun e w' q => ?_
  unfold Bad at h
  rw [if_pos h] at q
  exact ⟨q.2, q.1⟩
end Go.Proofs.YtjippoejaieneaaGreat
