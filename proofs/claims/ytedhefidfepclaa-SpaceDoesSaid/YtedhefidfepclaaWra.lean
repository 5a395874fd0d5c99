/- Bytes written through a table, where that is refused. Conditions: numbers that a machine holds. -/
import Derived.Test.YtedhefidfepclaaRdb
namespace Go.Proofs.Ytedhefidfepclaa
open Go.RowKit Go.Maps Go.Shelf
set_option linter.unusedVariables false

def writeE (F : Nat) (ps : List Pg) (a : Int) (n : Nat) : Int := if chk F ps = 0 then (if n ≤ 4096 then thereE ps 2 a n else 80) else chk F ps
def writeB (F : Nat) (ps : List Pg) (B : Bts) (a : Int) (s : Bts) : Bts := if writeE F ps a s.length = 0 then wr ps a s B else B
set_option maxRecDepth 100000 in
set_option maxHeartbeats 4000000 in
theorem write_no (p g cap F : Nat) (B : Bts) (w : World) (h : IsM w p g cap F B) (G : Nat → Prop) (v : Value) (ps : List Pg) (ht : TabV G w v ps) (a : Int) (st : ByteArray) (ha : In64 a) (hsz : st.size < 9223372036854775808) (hno : writeE F ps a st.size ≠ 0) :
    Calls Try.prog 42 #[.pointer (some ⟨p, 0, none⟩), v, .int .i64 a, .string st] w fun e w' => e = .returned (.int .i64 (writeE F ps a st.size)) ∧ Below w.heap.size w w' := by
  obtain ⟨q, np, cap0, rfl⟩ : ∃ q n cap, v = .slice q n cap := by obtain ⟨q, cap, e, _⟩ := ht; exact ⟨_, _, _, e⟩
  obtain ⟨w1, hw1⟩ : ∃ w1, w1 = (w.alloc (.cells #[.pointer (some ⟨p, 0, none⟩)] 63)).alloc (.cells #[.string st] 9) := ⟨_, rfl⟩
  have hb1 : Below w.heap.size w w1 := by rw [hw1]; exact ((Below.refl _ w).alloc (Nat.le_refl _) _).alloc (by simp) _
  have bM : Boxed w1 w.heap.size 63 (.pointer (some ⟨p, 0, none⟩)) := by rw [hw1]; exact (Boxed.new _ _ _).alloc _
  have bS : Boxed w1 (w.heap.size + 1) 9 (.string st) := by have := Boxed.new (w.alloc (.cells #[.pointer (some ⟨p, 0, none⟩)] 63)) 9 (.string st); rw [World.size_alloc] at this; rw [hw1]; exact this
  have kc := check_any p g cap F B w1 (h.below hb1) G (.slice q np cap0) ps (ht.below hb1)
  have cM := bM.cell
  have HS : Hid (∀ W, Below w1.heap.size w1 W → W.cell? ⟨w.heap.size + 1, 0, none⟩ = some (.string st)) := fun W hW => cell_below bS.cell hW
  have H := Lib.hid (And.intro h (And.intro ht (And.intro hb1 bM)))
  by_cases c0 : chk F ps = 0
  · have e1 : writeE F ps a st.size = if st.size ≤ 4096 then thereE ps 2 a st.size else 80 := by unfold writeE; rw [if_pos c0]
    have hps := (chk_mem c0).1
    have hrr := chk_rights c0
    rw [c0] at kc
    by_cases s0 : st.size ≤ 4096
    · rw [if_pos s0] at e1
      rw [e1] at hno ⊢
      have HT : Hid (∀ W, Below w1.heap.size w1 W → Calls Try.prog 62 #[.slice q np cap0, .int .i64 a, .int .i64 (st.size : Int), .int .i64 2] W fun e w' => e = .returned (.int .i64 (thereE ps 2 a st.size)) ∧ Below W.heap.size W w') :=
        fun W hW => there_any q np cap0 G ps W (ht.below (hb1.trans (hW.mono hb1.size))) hps hrr a ha st.size s0 2 (by omega)
      obtain ⟨x, hx⟩ : ∃ x, x = thereE ps 2 a st.size := ⟨_, rfl⟩
      rw [← hx] at hno ⊢
      have HX := Lib.hid hx
      clear h ht hb1 bM bS c0 e1 hps hrr hx
      have cS1 : w1.cell? ⟨w.heap.size + 1, 0, none⟩ = some (.string st) := HS.out w1 (Below.refl _ _)
      rw [hw1] at kc cM HT cS1
      have HW1 := Lib.hid hw1
      have HS2 := HS
      rw [hw1] at HS2
      clear hw1
      go_enter Try.func42, Try.ntmps42
      go_wp2_with (first
        | (go_at_call 61; refine kc.mono ?_; rintro e w' ⟨rfl, hb⟩; have HB := Lib.hid hb; have cS := HS2.out _ hb; clear kc hb)
        | (go_at_call 62; refine (HT.out _ HB.out).mono ?_; rw [← HX.out]; rintro e w'' ⟨rfl, hb'⟩; have HB' := Lib.hid hb'; clear hb'))
      go_ret
      refine ⟨rfl, ?_⟩
      have b1 := HB.out
      rw [← HW1.out] at b1
      have b2 := H.out.2.2.1.trans (b1.mono H.out.2.2.1.size)
      exact b2.trans (HB'.out.mono b2.size)
    · rw [if_neg s0] at e1
      rw [e1]
      clear h ht hb1 bM bS c0 hno e1 hps hrr
      have cS1 : w1.cell? ⟨w.heap.size + 1, 0, none⟩ = some (.string st) := HS.out w1 (Below.refl _ _)
      rw [hw1] at kc cM cS1
      have HS2 := HS
      rw [hw1] at HS2
      go_enter Try.func42, Try.ntmps42
      go_wp2_with (go_at_call 61; refine kc.mono ?_; rintro e w' ⟨rfl, hb⟩; have cS := HS2.out _ hb)
      go_ret
      exact ⟨rfl, by rw [← hw1] at hb; exact H.out.2.2.1.trans (hb.mono H.out.2.2.1.size)⟩
  · have e1 : writeE F ps a st.size = chk F ps := by unfold writeE; rw [if_neg c0]
    rw [e1]
    clear h ht hb1 bM bS hno e1
    generalize chk F ps = x at *
    rw [hw1] at kc cM
    go_enter Try.func42, Try.ntmps42
    go_wp2_with (go_at_call 61; refine kc.mono ?_; rintro e w' ⟨rfl, hb⟩)
    go_ret
    exact ⟨rfl, by rw [← hw1] at hb; exact H.out.2.2.1.trans (hb.mono H.out.2.2.1.size)⟩
end Go.Proofs.Ytedhefidfepclaa
