/- Bytes read through a table. Conditions: numbers that a machine holds. -/
import Derived.Test.YtedhefidfepclaaThr
import Derived.Test.YtedhefidfepclaaRnd
import Derived.Test.YtedhefidfepclaaNew
import Derived.RangeFuncBox
namespace Go.Proofs.Ytedhefidfepclaa
open Go.RowKit Go.Maps Go.Shelf
set_option linter.unusedVariables false
attribute [local go_sem] Oper.semAt_some

def sizeOk (n R : Int) : Prop := 0 ≤ n ∧ n ≤ 4096 ∧ (R = 1 ∨ R = 4)
instance (n R : Int) : Decidable (sizeOk n R) := by unfold sizeOk; infer_instance
def readE (F : Nat) (ps : List Pg) (a n R : Int) : Int := if chk F ps = 0 then (if sizeOk n R then thereE ps R a n.toNat else 80) else chk F ps
def readS (F : Nat) (ps : List Pg) (B : Bts) (a n R : Int) : Bts := if readE F ps a n R = 0 then rd ps B a n.toNat else []
theorem chk_rights {F : Nat} {ps : List Pg} (h : chk F ps = 0) : ∀ p ∈ ps, 0 ≤ p.2 ∧ p.2 ≤ 7 := fun p hp => by have := chk_range h hp; omega
set_option maxRecDepth 100000 in
set_option maxHeartbeats 4000000 in
theorem read_no (p g cap F : Nat) (B : Bts) (w : World) (h : IsM w p g cap F B) (G : Nat → Prop) (v : Value) (ps : List Pg) (ht : TabV G w v ps) (a n R : Int) (ha : In64 a) (hno : readE F ps a n R ≠ 0) :
    Calls Try.prog 40 #[.pointer (some ⟨p, 0, none⟩), v, .int .i64 a, .int .i64 n, .int .i64 R] w fun e w' => e = .returned (.tuple #[.string ⟨#[]⟩, .int .i64 (readE F ps a n R)]) ∧ Below w.heap.size w w' := by
  obtain ⟨q, np, cap0, rfl⟩ : ∃ q n cap, v = .slice q n cap := by obtain ⟨q, cap, e, _⟩ := ht; exact ⟨_, _, _, e⟩
  obtain ⟨w1, hw1⟩ : ∃ w1, w1 = w.alloc (.cells #[.pointer (some ⟨p, 0, none⟩)] 63) := ⟨_, rfl⟩
  have hb1 : Below w.heap.size w w1 := by rw [hw1]; exact (Below.refl _ w).alloc (Nat.le_refl _) _
  have bM : Boxed w1 w.heap.size 63 (.pointer (some ⟨p, 0, none⟩)) := by rw [hw1]; exact Boxed.new _ _ _
  have kc := check_any p g cap F B w1 (h.below hb1) G (.slice q np cap0) ps (ht.below hb1)
  have cM := bM.cell
  have H := Lib.hid (And.intro h (And.intro ht (And.intro hb1 bM)))
  by_cases c0 : chk F ps = 0
  · have e1 : readE F ps a n R = if sizeOk n R then thereE ps R a n.toNat else 80 := by unfold readE; rw [if_pos c0]
    have hps := (chk_mem c0).1
    have hrr := chk_rights c0
    rw [c0] at kc
    by_cases s0 : sizeOk n R
    · rw [if_pos s0] at e1
      have s1 := s0
      unfold sizeOk at s1
      obtain ⟨m, rfl⟩ : ∃ m : Nat, n = (m : Int) := ⟨n.toNat, by omega⟩
      rw [Int.toNat_natCast] at e1
      rw [e1] at hno ⊢
      have HT : Hid (∀ W, Below w1.heap.size w1 W → Calls Try.prog 62 #[.slice q np cap0, .int .i64 a, .int .i64 (m : Int), .int .i64 R] W fun e w' => e = .returned (.int .i64 (thereE ps R a m)) ∧ Below W.heap.size W w') :=
        fun W hW => there_any q np cap0 G ps W (ht.below (hb1.trans (hW.mono hb1.size))) hps hrr a ha m (by omega) R (by omega)
      obtain ⟨x, hx⟩ : ∃ x, x = thereE ps R a m := ⟨_, rfl⟩
      rw [← hx] at hno ⊢
      have HX := Lib.hid hx
      have hR := s1.2.2
      have hm1 : (m : Int) ≤ 4096 := s1.2.1
      clear h ht hb1 bM c0 s0 e1 hps hrr hx s1
      rw [hw1] at kc cM HT
      have HW1 := Lib.hid hw1
      clear hw1
      rcases hR with rfl | rfl
      · go_enter Try.func40, Try.ntmps40
        go_wp2_with (first
          | (go_at_call 61; refine kc.mono ?_; rintro e w' ⟨rfl, hb⟩; have HB := Lib.hid hb; clear kc)
          | (go_at_call 62; refine (HT.out _ HB.out).mono ?_; rw [← HX.out]; rintro e w'' ⟨rfl, hb'⟩; have HB' := Lib.hid hb'; clear hb'))
        go_ret2
        refine ⟨rfl, ?_⟩
        have b1 := HB.out
        rw [← HW1.out] at b1
        have b2 := H.out.2.2.1.trans (b1.mono H.out.2.2.1.size)
        exact b2.trans (HB'.out.mono b2.size)
      · go_enter Try.func40, Try.ntmps40
        go_wp2_with (first
          | (go_at_call 61; refine kc.mono ?_; rintro e w' ⟨rfl, hb⟩; have HB := Lib.hid hb; clear kc)
          | (go_at_call 62; refine (HT.out _ HB.out).mono ?_; rw [← HX.out]; rintro e w'' ⟨rfl, hb'⟩; have HB' := Lib.hid hb'; clear hb'))
        go_ret2
        refine ⟨rfl, ?_⟩
        have b1 := HB.out
        rw [← HW1.out] at b1
        have b2 := H.out.2.2.1.trans (b1.mono H.out.2.2.1.size)
        exact b2.trans (HB'.out.mono b2.size)
    · rw [if_neg s0] at e1
      rw [e1]
      unfold sizeOk at s0
      have HS := Lib.hid s0
      clear h ht hb1 bM c0 hno e1 hps hrr s0
      rw [hw1] at kc cM
      by_cases n0 : n < 0
      · go_enter Try.func40, Try.ntmps40
        go_wp2_with (go_at_call 61; refine kc.mono ?_; rintro e w' ⟨rfl, hb⟩)
        go_ret2
        exact ⟨rfl, by rw [← hw1] at hb; exact H.out.2.2.1.trans (hb.mono H.out.2.2.1.size)⟩
      · by_cases n1 : 4096 < n
        · go_enter Try.func40, Try.ntmps40
          go_wp2_with (go_at_call 61; refine kc.mono ?_; rintro e w' ⟨rfl, hb⟩)
          go_ret2
          exact ⟨rfl, by rw [← hw1] at hb; exact H.out.2.2.1.trans (hb.mono H.out.2.2.1.size)⟩
        · have s0 := HS.out
          have r1 : (R != 1) = true := by simp; omega
          have r4 : (R != 4) = true := by simp; omega
          clear s0
          go_enter Try.func40, Try.ntmps40
          go_wp2_with (go_at_call 61; refine kc.mono ?_; rintro e w' ⟨rfl, hb⟩)
          go_ret2
          exact ⟨rfl, by rw [← hw1] at hb; exact H.out.2.2.1.trans (hb.mono H.out.2.2.1.size)⟩
  · have e1 : readE F ps a n R = chk F ps := by unfold readE; rw [if_neg c0]
    rw [e1]
    clear h ht hb1 bM hno e1
    generalize chk F ps = x at *
    rw [hw1] at kc cM
    go_enter Try.func40, Try.ntmps40
    go_wp2_with (go_at_call 61; refine kc.mono ?_; rintro e w' ⟨rfl, hb⟩)
    go_ret2
    exact ⟨rfl, by rw [← hw1] at hb; exact H.out.2.2.1.trans (hb.mono H.out.2.2.1.size)⟩
end Go.Proofs.Ytedhefidfepclaa
