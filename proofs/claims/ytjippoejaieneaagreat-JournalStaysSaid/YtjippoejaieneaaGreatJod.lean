/- A journal at a place: its calls; a journal opened of a disk. Conditions: ints are within 64 bits. -/
import Derived.Test.YtjippoejaieneaaGreatJrj
namespace Go.Proofs.YtjippoejaieneaaGreat
open Go.RowKit Go.Maps
set_option maxRecDepth 20000
set_option linter.unusedVariables false

theorem JAt.eat {W : World} {B j x p : Nat} {S : St} {V : Dv} {J : Jn} (h : JAt W B j x p S V J) : EAt W B x p S V := by
  obtain ⟨h0, F, mb, i, g⟩ := h
  exact ⟨h0, i.jx.sok, i.jx.good, F, i.jx.ext, fun k hk => g k (.inl hk)⟩
theorem jat_commit {n : Nat} (B j x p : Nat) (S : St) (V : Dv) (J : Jn) (v : Value) (l : List Wt) (W0 w : World) (h : JAt W0 B j x p S V J) (hc : Calm n S) (hb : Below W0.heap.size W0 w) (hv : WV w (fun k => W0.heap.size ≤ k ∧ k < w.heap.size) v l) (hl : l.length ≤ 17592186044416) :
    Calls Tryz.prog 24 #[.pointer (some ⟨j, 0, none⟩), v] w fun e w' => e = .returned (.int .i64 (cmE J V l)) ∧ JAt w' B j x p (runS (cmS J V l) S V).1 (runS (cmS J V l) S V).2 (cmJ J V l) ∧ Below B w w' := by
  obtain ⟨h0, F, mb, i, g⟩ := h
  have hB : B ≤ w.heap.size := Nat.le_trans h0 hb.size
  refine (commit_any F _ j x p mb S V J v l w (i.below hb) hv (fun k hk z => by have := i.lt k z; omega) (fun k hk => hk.2) hl).mono fun e w' q => ?_
  obtain ⟨g1, _⟩ := calm_run (cmS J V l) hc i.jx.good
  rcases q with ⟨q1, _⟩ | ⟨_, q2, t⟩
  · rw [g1] at q1; cases q1
  · exact ⟨q2, JAt.of hB g t⟩
theorem jat_read (B j x p : Nat) (S : St) (V : Dv) (J : Jn) (c : Int) (w : World) (h : JAt w B j x p S V J) (hd : S.dead = false) (hm : V.mis < 4611686018427387904) :
    Calls Tryz.prog 17 #[.pointer (some ⟨j, 0, none⟩), .int .i64 c] w fun e w' => e = .returned (.tuple #[.string (ofL (celD S V J c)), .int .i64 (celE S V J c)]) ∧ JAt w' B j x p S (celV S V J c) J ∧ Below B w w' := by
  obtain ⟨h0, F, mb, i, g⟩ := h
  exact (jread_any F j x p mb S V J c w i hd hm).mono fun e w' q => ⟨q.1, JAt.of h0 g q.2⟩
theorem jat_next (B j x p : Nat) (S : St) (V : Dv) (J : Jn) (w : World) (h : JAt w B j x p S V J) :
    Calls Tryz.prog 23 #[.pointer (some ⟨j, 0, none⟩)] w fun e w' => e = .returned (.int .i64 J.next) ∧ w = w' := by
  obtain ⟨h0, F, mb, i, g⟩ := h
  exact next_any F j x p _ S V J w i.jx
theorem jat_room (B j x p : Nat) (S : St) (V : Dv) (J : Jn) (w : World) (h : JAt w B j x p S V J) :
    Calls Tryz.prog 26 #[.pointer (some ⟨j, 0, none⟩)] w fun e w' => e = .returned (.int .i64 (mostN J.area J.en)) ∧ w = w' := by
  obtain ⟨h0, F, mb, i, g⟩ := h
  have := i.ok.a1; have := i.ok.e0; have := i.ok.e1; have := i.c4
  exact room_any F j x p _ S V J w i.jx (by omega) (by omega) (by omega)
theorem jat_cells (B j x p : Nat) (S : St) (V : Dv) (J : Jn) (w : World) (h : JAt w B j x p S V J) :
    Calls Tryz.prog 29 #[.pointer (some ⟨j, 0, none⟩)] w fun e w' => e = .returned (.int .i64 ((V.cnt - J.area : Nat) : Int)) ∧ Below w.heap.size w w' := by
  obtain ⟨h0, F, mb, i, g⟩ := h
  exact cells_any F j x p _ S V J w i.jx i.ok.a1
set_option maxHeartbeats 4000000 in
theorem opened_at (B p : Nat) (S : St) (n a m : Int) (w : World) (h : At w B p S) (hB : B ≤ w.heap.size) (hi : In64 n ∧ In64 a ∧ In64 m) (hn : nwE S 0 n m = 0) (hd : S.dead = false) (ho : CanOpen S (newV 0 n m) a) :
    Calls Tryz.prog 33 #[.pointer (some ⟨p, 0, none⟩), .int .i64 n, .int .i64 a, .int .i64 m] w fun e w' => ∃ j x, e = .returned (.tuple #[.pointer (some ⟨j, 0, none⟩), .int .i64 0]) ∧ JAt w' B j x p S (vk S (newV 0 n m) 2) (opnJ S (newV 0 n m) a) ∧ Below B w w' := by
  have KV := Lib.hid (enew_at B p S 0 n m w h hB (by unfold In64; omega) hi.1 hi.2.2 hn)
  have KO : Hid (∀ W, EAt W B w.heap.size p S (newV 0 n m) → Calls Tryz.prog 45 #[.pointer (some ⟨w.heap.size, 0, none⟩), .int .i64 a] W fun e w' => ∃ j, e = .returned (.tuple #[.pointer (some ⟨j, 0, none⟩), .int .i64 0]) ∧ JAt w' B j w.heap.size p S (vk S (newV 0 n m) 2) (opnJ S (newV 0 n m) a) ∧ Below B W w') := fun W hE => open_at B w.heap.size p S (newV 0 n m) a W hE hd hi.2.1 (by show (0 : Nat) < _; omega) ho
  have HB := Lib.hid hB
  clear h hn ho hB hi
  go_enter Tryz.func33, Tryz.ntmps33
  go_wp2_with (first
    | (go_at_call 43; (with_reducible refine KV.out.mono ?_); rintro e w2 ⟨rfl, he, hb⟩; have H2 := Lib.hid (And.intro he hb); clear he hb)
    | (go_at_call 45; (with_reducible refine (KO.out _ H2.out.1).mono ?_); rintro e w3 ⟨j, rfl, hj, hb⟩; have H3 := Lib.hid (And.intro hj hb); clear hj hb))
  go_ret2
  exact ⟨j, _, rfl, H3.out.1, (H2.out.2.mono HB.out).trans H3.out.2⟩
end Go.Proofs.YtjippoejaieneaaGreat
