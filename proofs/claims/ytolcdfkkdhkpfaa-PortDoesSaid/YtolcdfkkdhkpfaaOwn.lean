/- What a port's states keep; a port that the call itself has made; the document's examples. No conditions. -/
import Derived.Test.YtolcdfkkdhkpfaaRcv
namespace Go.Proofs.Ytolcdfkkdhkpfaa
open Go.RowKit Go.Maps Go.Sort Go.Lib
set_option linter.unusedVariables false
set_option linter.unusedSimpArgs false

theorem new_ok {c : Cf} (h : okC c) : (newS c).ok := by
  unfold okC at h
  exact ⟨h.1, h.2.2.2.2.1, ⟨by show 1 ≤ c.dep.toNat; omega, by show c.dep.toNat ≤ 8; omega⟩, Nat.zero_le _, fun _ => Nat.zero_le _, ⟨by show (0:Int) ≤ 0; decide, by show (0:Int) ≤ _; decide⟩, fun m hm => by cases hm⟩
theorem send_size {s : Po} {m : ByteArray} {t : Int} (h : s.ok) (e : sendE s m t = 0) : okT t ∧ m.size ≤ 255 ∧ ¬ s.size < (m.size : Int) := by
  unfold sendE at e
  split at e
  · rename_i a
    split at e
    · cases e
    · rename_i b; exact ⟨a, by have := h.size; omega, b⟩
  · cases e
theorem send_ok {s : Po} (h : s.ok) (m : ByteArray) (t : Int) : (sendS s m t).ok := by
  unfold sendS
  split
  · rename_i e
    obtain ⟨a, b, _⟩ := send_size h e
    split
    · rename_i z
      exact ⟨h.kind, h.size, h.dep, h.dep.1, fun _ => Nat.le_refl _, a, fun x hx => by simp at hx; subst hx; exact b⟩
    · rename_i z
      split
      · exact ⟨h.kind, h.size, h.dep, h.len, h.one, h.sent, h.small⟩
      · rename_i n
        refine ⟨h.kind, h.size, h.dep, by have := h.len; simp; omega, fun k => absurd k z, h.sent, fun x hx => ?_⟩
        rcases List.mem_append.1 hx with hx | hx
        · exact h.small x hx
        · simp at hx; subst hx; exact b
  · exact h
theorem recv_ok {s : Po} (h : s.ok) (t : Int) : (recvS s t).ok := by
  unfold recvS
  split
  · rename_i z
    exact ⟨h.kind, h.size, h.dep, by have := h.len; simp; omega, fun k => absurd k z.2, h.sent, fun x hx => h.small x (List.mem_of_mem_tail hx)⟩
  · exact h
theorem clear_ok {s : Po} (h : s.ok) : (clearS s).ok := ⟨h.kind, h.size, h.dep, Nat.zero_le _, fun _ => Nat.zero_le _, ⟨by show (0:Int) ≤ 0; decide, by show (0:Int) ≤ _; decide⟩, fun m hm => by cases hm⟩
theorem send_lost (s : Po) (m : ByteArray) (t : Int) : (sendS s m t).lost ≤ s.lost + 1 := by
  unfold sendS; split
  · split
    · exact Nat.le_succ _
    · split
      · exact Nat.le_refl _
      · exact Nat.le_succ _
  · exact Nat.le_succ _
theorem recv_lost (s : Po) (t : Int) : (recvS s t).lost ≤ s.lost := by
  unfold recvS; split
  · exact Nat.zero_le _
  · exact Nat.le_refl _
theorem send_fix (s : Po) (m : ByteArray) (t : Int) : (sendS s m t).kind = s.kind ∧ (sendS s m t).size = s.size ∧ (sendS s m t).dep = s.dep := by
  unfold sendS; split
  · split
    · exact ⟨rfl, rfl, rfl⟩
    · split <;> exact ⟨rfl, rfl, rfl⟩
  · exact ⟨rfl, rfl, rfl⟩
theorem recv_fix (s : Po) (t : Int) : (recvS s t).kind = s.kind ∧ (recvS s t).size = s.size ∧ (recvS s t).dep = s.dep := by
  unfold recvS; split <;> exact ⟨rfl, rfl, rfl⟩
/-- a port whose blocks all lie behind w's: k calls that send at most -/
def Own (w : World) (k : Nat) (W : World) (p : Nat) (s : Po) : Prop :=
  ∃ F : Nat → Prop, (∀ j, F j → w.heap.size ≤ j) ∧ IsP W F p s ∧ Below w.heap.size w W ∧ s.ok ∧ s.lost ≤ k
theorem own_tak {w W w' : World} {k' : Nat} {F : Nat → Prop} {p : Nat} {s : Po} {v : Value} {e : Ending} (h1 : ∀ j, F j → w.heap.size ≤ j) (h2 : Below w.heap.size w W) (h : TakP W F p v s e w') (ho : s.ok) (hl : s.lost ≤ k') : Own w k' w' p s := by
  obtain ⟨_, x, y⟩ := h
  exact ⟨nw F W w', fun j hj => by rcases hj with hj | hj; exact h1 j hj; exact Nat.le_trans h2.size hj.1, x, h2.trans (y.below h2.size h1), ho, hl⟩
theorem Own.send {w W : World} {k p : Nat} {s : Po} (h : Own w k W p s) (hk : k < 4611686018427387904) (m : ByteArray) (t : Int) :
    Calls Try.prog 12 #[.pointer (some ⟨p, 0, none⟩), .string m, .int .i64 t] W fun e w' => e = .returned (.int .i64 (sendE s m t)) ∧ Own w (k + 1) w' p (sendS s m t) := by
  obtain ⟨F, h1, h2, h3, h4, h5⟩ := h
  exact (send_any W F p s h2 m t h4 (by omega)).mono fun e w' x => ⟨x.1, own_tak h1 h3 x (send_ok h4 m t) (Nat.le_trans (send_lost s m t) (by omega))⟩
theorem Own.recv {w W : World} {k p : Nat} {s : Po} (h : Own w k W p s) (t : Int) :
    Calls Try.prog 14 #[.pointer (some ⟨p, 0, none⟩), .int .i64 t] W fun e w' => e = .returned (recvV s t) ∧ Own w k w' p (recvS s t) := by
  obtain ⟨F, h1, h2, h3, h4, h5⟩ := h
  exact (recv_any W F p s h2 t h4).mono fun e w' x => ⟨x.1, own_tak h1 h3 x (recv_ok h4 t) (Nat.le_trans (recv_lost s t) h5)⟩
theorem Own.clear {w W : World} {k p : Nat} {s : Po} (h : Own w k W p s) :
    Calls Try.prog 16 #[.pointer (some ⟨p, 0, none⟩)] W fun e w' => e = .returned (.tuple #[]) ∧ Own w k w' p (clearS s) := by
  obtain ⟨F, h1, h2, h3, h4, h5⟩ := h
  exact (clear_any W F p s h2).mono fun e w' x => ⟨x.1, own_tak (v := .tuple #[]) h1 h3 x (clear_ok h4) (Nat.zero_le _)⟩
theorem Own.len {w W : World} {k p : Nat} {s : Po} (h : Own w k W p s) :
    Calls Try.prog 20 #[.pointer (some ⟨p, 0, none⟩)] W fun e w' => e = .returned (.int .i64 (s.l.length : Int)) ∧ W = w' := by
  obtain ⟨F, h1, h2, h3, h4, h5⟩ := h
  exact len_any W F p s h2
theorem Own.below {w W W' : World} {k p : Nat} {s : Po} (h : Own w k W p s) (hb : Below W.heap.size W W') : Own w k W' p s := by
  obtain ⟨F, h1, h2, h3, h4, h5⟩ := h
  exact ⟨F, h1, h2.below hb, h3.trans (hb.mono h3.size), h4, h5⟩
theorem Own.bel {w W : World} {k p : Nat} {s : Po} (h : Own w k W p s) : Below w.heap.size w W := by
  obtain ⟨F, h1, h2, h3, h4, h5⟩ := h; exact h3
theorem Own.ok {w W : World} {k p : Nat} {s : Po} (h : Own w k W p s) : s.ok := by
  obtain ⟨F, h1, h2, h3, h4, h5⟩ := h; exact h4
theorem own_new {w W : World} (c : Cf) (hc : okC c) (hb : Below w.heap.size w W) : Calls Try.prog 7 #[c.agg] W fun e w' => ∃ p, e = .returned (.tuple #[.pointer (some ⟨p, 0, none⟩), .int .i64 0]) ∧ Own w 0 w' p (newS c) :=
  (new_yes W c hc).mono fun e w' ⟨p, x, y, z⟩ => ⟨p, x, newB W w', fun j hj => Nat.le_trans hb.size hj.1, y, hb.trans (z.mono hb.size), new_ok hc, Nat.le_refl _⟩
def cA : Cf := ⟨1, 0, 1, 2, 2⟩
def cB : Cf := ⟨0, 0, 1, 2, 1⟩
def bA : ByteArray := ⟨#[97]⟩
def bB : ByteArray := ⟨#[98]⟩
def bC : ByteArray := ⟨#[99]⟩
def bBCD : ByteArray := ⟨#[98, 99, 100]⟩
def bX : ByteArray := ⟨#[120]⟩
def sA1 : Po := sendS (newS cA) bA 0
def sA2 : Po := sendS sA1 bBCD 0
def sA3 : Po := sendS sA2 bB 0
def sA4 : Po := sendS sA3 bC 0
def sA5 : Po := recvS sA4 0
def sA6 : Po := recvS sA5 0
def sB1 : Po := sendS (newS cB) bX 3
theorem fx1 : sendE (newS cA) bA 0 = 0 := by decide +kernel
theorem fx2 : sendE sA1 bBCD 0 = 141 := by decide +kernel
theorem fx3 : sendE sA2 bB 0 = 0 := by decide +kernel
theorem fx4 : sendE sA3 bC 0 = 0 := by decide +kernel
theorem fx5 : sA4.l.length = 2 := by decide +kernel
theorem fx6 : recvV sA4 0 = .tuple #[.string bA, .int .i64 1, .int .i64 0] := by kernel_rfl
theorem fx7 : recvV sA5 0 = .tuple #[.string bB, .int .i64 0, .int .i64 0] := by kernel_rfl
theorem fx8 : recvV sA6 0 = .tuple #[.string ByteArray.empty, .int .i64 0, .int .i64 142] := by kernel_rfl
theorem fx9 : sendE (newS cB) bX 3 = 0 := by decide +kernel
theorem fx10 : recvV sB1 5 = .tuple #[.string bX, .int .i64 2, .int .i64 0] := by kernel_rfl
theorem fx11 : (recvS sB1 5).l.length = 1 := by decide +kernel
end Go.Proofs.Ytolcdfkkdhkpfaa
