/- A disk behind writes and flushes: what the call returns. Conditions: sizes that a machine holds. -/
import Derived.Test.YtnecbbflcpngcaaLfn
import Derived.Test.YtnecbbflcpngcaaFlu
namespace Go.Proofs.Ytnecbbflcpngcaa
open Go.RowKit Go.Maps
set_option maxRecDepth 20000
set_option linter.unusedVariables false

/-- a disk of so many bytes, with power, nothing armed -/
structure Calm (n : Nat) (S : St) : Prop where
  ok : S.ok
  dead : S.dead = false
  armed : S.armed = 0
  len : S.safe.length = n
theorem Calm.change {n : Nat} {S : St} (h : Calm n S) : S.change = (S, 0) := by unfold St.change; rw [if_pos h.armed]
theorem Calm.write {n : Nat} {S : St} (h : Calm n S) (i : Int) (s : Bts) : Calm n (S.write i s).1 := by
  refine ⟨(h.ok.write i s).1, ?_, ?_, ?_⟩ <;> unfold St.write <;> rw [if_neg (by rw [h.dead]; decide)] <;> split <;> try (first | exact h.dead | exact h.armed | exact h.len)
  all_goals
    split
    · first | exact h.dead | exact h.armed | exact h.len
    · unfold St.change
      rw [if_pos (show (S.put i.toNat s).armed = 0 from h.armed)]
      first | exact h.dead | exact h.armed | exact h.len
theorem Calm.flush {n : Nat} {S : St} (h : Calm n S) (f m : Int) : Calm n (S.flush f m).1 := by
  have hok := (h.ok.flush f m).1
  have hl : ∀ a b, (S.calm a b).safe.length = n := fun a b => by rw [S.calm_len h.ok, ← h.len, h.ok.len]
  refine ⟨hok, ?_, ?_, ?_⟩ <;> unfold St.flush <;> rw [if_neg (by rw [h.dead]; decide)] <;> split <;> try (first | exact h.dead | exact h.armed | exact h.len)
  all_goals
    rw [h.change]
    first | exact h.dead | exact h.armed | exact hl _ _
theorem Calm.new {s : ByteArray} (h : ¬ Bad s) : Calm s.size (newS s.data.toList) := by
  unfold Bad at h
  exact ⟨St.ok.new (by rw [baList]; omega) (by rw [baList]; omega) (by rw [baList]; omega), rfl, rfl, baList s⟩
/-- a disk whose blocks all lie above B -/
def At (w : World) (B p : Nat) (S : St) : Prop := ∃ F, IsD w F p S ∧ ∀ k, F k → B ≤ k ∧ k < w.heap.size
theorem At.of_to {w w' : World} {B p : Nat} {S S' : St} {F : Nat → Prop} (hF : ∀ k, F k → B ≤ k ∧ k < w.heap.size) (hB : B ≤ w.heap.size) (h : To F w w' p S') : At w' B p S' ∧ Below B w w' := by
  obtain ⟨F', d, g, c⟩ := h
  exact ⟨⟨F', d, fun k hk => by rcases g k hk with q | q; exact ⟨(hF k q).1, Nat.lt_of_lt_of_le (hF k q).2 c.size⟩; exact ⟨by omega, q.2⟩⟩, c.below hB (fun k hk => (hF k hk).1)⟩
theorem At.below {w w' : World} {B p : Nat} {S : St} (h : At w B p S) (hb : Below w.heap.size w w') : At w' B p S := by
  obtain ⟨F, d, g⟩ := h
  exact ⟨F, d.below hb, fun k hk => ⟨(g k hk).1, Nat.lt_of_lt_of_le (g k hk).2 hb.size⟩⟩
theorem write_at (B p : Nat) (S : St) (w : World) (h : At w B p S) (hB : B ≤ w.heap.size) (i : Int) (s : ByteArray) (hi : In64 i) (hsz : s.size ≤ 281474976710656) :
    Calls Try.prog 39 #[.pointer (some ⟨p, 0, none⟩), .int .i64 i, .string s] w fun e w' => e = .returned (.int .i64 (S.write i s.data.toList).2) ∧ At w' B p (S.write i s.data.toList).1 ∧ Below B w w' := by
  obtain ⟨F, d, g⟩ := h
  exact (write_any F p S w d i s hi hsz).mono fun e w' q => ⟨q.1, At.of_to (S := S) g hB q.2⟩
theorem flush_at (B p : Nat) (S : St) (w : World) (h : At w B p S) (hB : B ≤ w.heap.size) (f n : Int) (hf : In64 f) (hn : In64 n) :
    Calls Try.prog 67 #[.pointer (some ⟨p, 0, none⟩), .int .i64 f, .int .i64 n] w fun e w' => e = .returned (.int .i64 (S.flush f n).2) ∧ At w' B p (S.flush f n).1 ∧ Below B w w' := by
  obtain ⟨F, d, g⟩ := h
  exact (flush_any F p S w d (fun k hk => (g k hk).2) f n hf hn).mono fun e w' q => ⟨q.1, At.of_to (S := S) g hB q.2⟩
theorem crash_at (B p : Nat) (S : St) (w : World) (h : At w B p S) (hB : B ≤ w.heap.size) (G : Nat → Prop) (v : Value) (ch : List Int) (hcv : CV w G v ch) :
    Calls Try.prog 35 #[.pointer (some ⟨p, 0, none⟩), v] w fun e w' => e = .returned (.int .i64 (S.crash ch).2) ∧ At w' B p (S.crash ch).1 ∧ Below B w w' := by
  obtain ⟨F, d, g⟩ := h
  exact (crash_any F p S w d G v ch hcv).mono fun e w' q => ⟨q.1, At.of_to (S := S) g hB q.2⟩
theorem revive_at (B p : Nat) (S : St) (w : World) (h : At w B p S) (hB : B ≤ w.heap.size) :
    Calls Try.prog 36 #[.pointer (some ⟨p, 0, none⟩)] w fun e w' => e = .returned (.tuple #[]) ∧ At w' B p S.revive ∧ Below B w w' := by
  obtain ⟨F, d, g⟩ := h
  exact (revive_any F p S w d).mono fun e w' q => ⟨q.1, At.of_to (S := S) g hB ⟨F, q.2.1, Gr.refl _ _ _, q.2.2.1⟩⟩
theorem arm_at (B p : Nat) (S : St) (w : World) (h : At w B p S) (hB : B ≤ w.heap.size) (n : Int) (hn : In64 n) (G : Nat → Prop) (v : Value) (ch : List Int) (hcv : CV w G v ch) (hG : ∀ k, G k → k < B) (hci : ∀ x ∈ ch, In64 x) :
    Calls Try.prog 58 #[.pointer (some ⟨p, 0, none⟩), .int .i64 n, v] w fun e w' => e = .returned (.int .i64 (S.arm n ch).2) ∧ At w' B p (S.arm n ch).1 ∧ Below B w w' := by
  obtain ⟨F, d, g⟩ := h
  exact (arm_any F p S w d (fun k hk => (g k hk).2) n hn G v ch hcv (fun k hk => by have := (g p d.lt.2).1; have := hG k hk; omega) hci).mono fun e w' q => ⟨q.1, At.of_to (S := S) g hB q.2⟩
theorem new_at (s : ByteArray) (w : World) (hs : s.size ≤ 140737488355328) (h : ¬ Bad s) :
    Calls Try.prog 17 #[.string s] w fun e w' => ∃ p, e = .returned (.tuple #[.pointer (some ⟨p, 0, none⟩), .int .i64 0]) ∧ At w' w.heap.size p (newS s.data.toList) ∧ Below w.heap.size w w' := by
  refine (new_any s w hs).mono fun e w' q => ?_
  unfold Bad at h
  rw [if_neg h] at q
  obtain ⟨hb, F, p, he, hd, hF⟩ := q
  exact ⟨p, he, ⟨F, hd, hF⟩, hb⟩
theorem new_bad (s : ByteArray) (w : World) (hs : s.size ≤ 140737488355328) (h : Bad s) :
    Calls Try.prog 17 #[.string s] w fun e w' => e = .returned (.tuple #[.pointer none, .int .i64 70]) ∧ Below w.heap.size w w' := by
  refine (new_any s w hs).mono fun e w' q => ?_
  unfold Bad at h
  rw [if_pos h] at q
  exact ⟨q.2, q.1⟩
end Go.Proofs.Ytnecbbflcpngcaa
