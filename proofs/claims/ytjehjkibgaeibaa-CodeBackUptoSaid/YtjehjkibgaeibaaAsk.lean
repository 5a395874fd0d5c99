/- What the code's reader tells of itself (its place, what is left, its fault, whether it is done), and its clone, in every state; nothing that was there turns. Conditions: it stands within its bytes, which are at most maxLen. -/
import Derived.Test.YtjehjkibgaeibaaMeth
namespace Go.Proofs.Ytjehjkibgaeibaa
open Go.RowKit
set_option linter.unusedVariables false

def Quiet (w : World) (v : Value) (x : Ending) (w' : World) : Prop := x = .returned v ∧ ∃ n, w' = w.drewN n
def faultV (p : Nat) (e : Int) : Value := if e = 0 then .tuple #[.int .i64 0, .int .i64 0] else .tuple #[.int .i64 e, .int .i64 (p : Int)]
def doneV (s : ByteArray) (p : Nat) (e : Int) : Value := if e = 0 ∧ p < s.size then .tuple #[.int .i64 12, .int .i64 (p : Int)] else faultV p e

theorem at_any (w : World) (b : Nat) (s : ByteArray) (p : Nat) (e : Int) (h : Rdr w b s p e) :
    Calls Try.prog 25 #[.pointer (some ⟨b, 0, none⟩)] w fun x w' => x = .returned (.int .i64 (p : Int)) ∧ w = w' := by
  have h1 := h.c1
  go_enter Try.func25, Try.ntmps25
  go_wp2
  go_ret
  exact ⟨rfl, rfl⟩

theorem left_any (w : World) (b : Nat) (s : ByteArray) (p : Nat) (e : Int) (h : Rdr w b s p e) (hp : p ≤ s.size) (hs : s.size ≤ maxLen) :
    Calls Try.prog 26 #[.pointer (some ⟨b, 0, none⟩)] w (Quiet w (.int .i64 ((s.size - p : Nat) : Int))) := by
  unfold maxLen at hs
  have h0 := h.c0
  have h1 := h.c1
  have he : ((s.size - p : Nat) : Int) = (s.size : Int) - p := by omega
  have HE := Lib.hid he
  clear he
  rw [HE.out]
  go_enter Try.func26, Try.ntmps26
  go_wp2_with fail
  go_quiet (fail)
  go_wp2
  go_ret
  exact ⟨rfl, _, rfl⟩

theorem fault_any (w : World) (b : Nat) (s : ByteArray) (p : Nat) (e : Int) (h : Rdr w b s p e) :
    Calls Try.prog 27 #[.pointer (some ⟨b, 0, none⟩)] w (Quiet w (faultV p e)) := by
  have h1 := h.c1
  have h2 := h.c2
  by_cases he : e = 0
  · subst he
    go_enter Try.func27, Try.ntmps27
    go_wp2
    go_ret2
    exact ⟨rfl, 0, rfl⟩
  · have hv : faultV p e = .tuple #[.int .i64 e, .int .i64 (p : Int)] := if_neg he
    have hd : (e == 0) = false := beq_eq_false_iff_ne.2 he
    rw [hv]
    go_enter Try.func27, Try.ntmps27
    go_wp2_with fail
    go_quiet (fail)
    go_wp2
    go_ret2
    exact ⟨rfl, _, rfl⟩

theorem faultV0 (p : Nat) : faultV p 0 = .tuple #[.int .i64 0, .int .i64 0] := rfl
theorem done_any (w : World) (b : Nat) (s : ByteArray) (p : Nat) (e : Int) (h : Rdr w b s p e) (hp : p ≤ s.size) (hs : s.size ≤ maxLen) :
    Calls Try.prog 29 #[.pointer (some ⟨b, 0, none⟩)] w (Quiet w (doneV s p e)) := by
  have h1 := h.c1
  have h2 := h.c2
  by_cases he : e = 0
  · subst he
    by_cases hl : p < s.size
    · have hv : doneV s p 0 = .tuple #[.int .i64 12, .int .i64 (p : Int)] := if_pos ⟨rfl, hl⟩
      rw [hv]
      have hg : (0 : Int) < ((s.size - p : Nat) : Int) := by omega
      go_enter Try.func29, Try.ntmps29
      go_wp2_with (go_at_call 26; refine (left_any _ _ _ _ _ h hp hs).mono ?_; rintro x w1 ⟨rfl, n1, rfl⟩)
      go_quiet (fail)
      go_wp2
      go_ret2
      exact ⟨rfl, _, World.drewN_drewN _ _ _⟩
    · have hv : doneV s p 0 = faultV p 0 := if_neg (fun x => hl x.2)
      rw [hv]
      have hg : ¬ (0 : Int) < ((s.size - p : Nat) : Int) := by omega
      go_enter Try.func29, Try.ntmps29
      go_wp2_with (first | (go_at_call 26; refine (left_any _ _ _ _ _ h hp hs).mono ?_; rintro x w1 ⟨rfl, n1, rfl⟩) | (go_at_call 27; refine (fault_any _ _ _ _ _ (h.drewN _)).mono ?_; rintro x w2 ⟨rfl, n2, rfl⟩; rw [faultV0]))
      go_ret2
      exact ⟨rfl, _, rfl⟩
  · have hv : doneV s p e = faultV p e := if_neg (fun x => he x.1)
    have hd : (e == 0) = false := beq_eq_false_iff_ne.2 he
    have hf : faultV p e = .tuple #[.int .i64 e, .int .i64 (p : Int)] := if_neg he
    rw [hv]
    have HF := Lib.hid hf
    clear hf hv he
    go_enter Try.func29, Try.ntmps29
    go_wp2_with (go_at_call 27; refine (fault_any _ _ _ _ _ h).mono ?_; rintro x w2 ⟨rfl, n2, rfl⟩; rw [HF.out])
    go_ret2
    exact ⟨by rw [HF.out]; rfl, _, rfl⟩

theorem clone_any (w : World) (b : Nat) (s : ByteArray) (p : Nat) (e : Int) (h : Rdr w b s p e) :
    Calls Try.prog 24 #[.pointer (some ⟨b, 0, none⟩)] w fun x w' => x = .returned (.pointer (some ⟨w.heap.size, 0, none⟩)) ∧ Rdr w' w.heap.size s p e ∧ Below w.heap.size w w' := by
  have h0 := h.c0
  have h1 := h.c1
  have h2 := h.c2
  go_enter Try.func24, Try.ntmps24
  go_wp2
  go_ret
  exact ⟨rfl, block_new _ _, (Below.refl _ _).alloc (Nat.le_refl _) _⟩

end Go.Proofs.Ytjehjkibgaeibaa
