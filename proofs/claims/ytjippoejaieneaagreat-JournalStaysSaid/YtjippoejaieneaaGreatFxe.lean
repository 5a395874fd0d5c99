/- The calls on an extent whose blocks all lie behind a mark, and the law's own fixed. Conditions: an int is within 64 bits, a string is no longer than a machine holds. -/
import Derived.Test.YtjippoejaieneaaGreatPur
import Derived.Laws.Concat
namespace Go.Proofs.YtjippoejaieneaaGreat
open Go.RowKit Go.Maps Go.Lib
set_option maxRecDepth 20000
set_option linter.unusedVariables false

structure EAt (w : World) (B x p : Nat) (S : St) (V : Dv) : Prop where
  base : B ≤ w.heap.size
  sok : S.ok
  good : Good S V
  ex : ∃ F, IsE w F x p S V ∧ ∀ k, F k → B ≤ k
theorem EAt.below {w w' : World} {B x p : Nat} {S : St} {V : Dv} (h : EAt w B x p S V) (hb : Below w.heap.size w w') : EAt w' B x p S V := by
  obtain ⟨h1, h2, h3, F, h4, h5⟩ := h
  exact ⟨Nat.le_trans h1 hb.size, h2, h3, F, h4.below hb, h5⟩
theorem EAt.of {w w' : World} {B x p : Nat} {F : Nat → Prop} {S' : St} {V' : Dv} (hB : B ≤ w.heap.size) (hF : ∀ k, F k → B ≤ k) (ho : S'.ok) (hg : Good S' V') (h : EE F w w' x p S' V') : EAt w' B x p S' V' ∧ Below B w w' := by
  obtain ⟨F', i, g, c⟩ := h
  refine ⟨⟨Nat.le_trans hB c.size, ho, hg, F', i, fun k hk => ?_⟩, c.below hB hF⟩
  rcases g k hk with z | z
  · exact hF k z
  · omega
theorem eread_at (B x p : Nat) (S : St) (V : Dv) (i : Int) (w : World) (h : EAt w B x p S V) (hm : V.mis < 4611686018427387904) :
    Calls Tryz.prog 80 #[.pointer (some ⟨x, 0, none⟩), .int .i64 i] w fun e w' => e = .returned (.tuple #[.string (ofL (rdD S V i)), .int .i64 (rdN S V i), .int .i64 (rdE S V i)]) ∧ EAt w' B x p S (rdV S V i) ∧ Below B w w' := by
  obtain ⟨h1, h2, h3, F, h4, h5⟩ := h
  exact (dread_any F x p S V i w h4 h3.ok h3.fit h3.coh hm).mono fun e w' q => ⟨q.1, EAt.of h1 h5 h2 (h3.read i) q.2⟩
theorem estamp_at (B x p : Nat) (S : St) (V : Dv) (i : Int) (w : World) (h : EAt w B x p S V) :
    Calls Tryz.prog 70 #[.pointer (some ⟨x, 0, none⟩), .int .i64 i] w fun e w' => e = .returned (.tuple #[.int .i64 (stN S V i), .int .i64 (stE S V i)]) ∧ EAt w' B x p S V ∧ Below w.heap.size w w' := by
  have hh := h
  obtain ⟨h1, h2, h3, F, h4, h5⟩ := h
  exact (stamp_any F x p S V i w h4 h3.fit).mono fun e w' q => ⟨q.1, hh.below q.2, q.2⟩
theorem ewrite_at (B x p : Nat) (S : St) (V : Dv) (i : Int) (d : ByteArray) (n : Int) (w : World) (h : EAt w B x p S V) (hsz : d.size ≤ 281474976710656) :
    Calls Tryz.prog 116 #[.pointer (some ⟨x, 0, none⟩), .int .i64 i, .string d, .int .i64 n] w fun e w' => e = .returned (.int .i64 (wrE S V i d.data.toList n)) ∧ EAt w' B x p (wrS S V i d.data.toList n) (wrV S V i d.data.toList n) ∧ Below B w w' := by
  obtain ⟨h1, h2, h3, F, h4, h5⟩ := h
  obtain ⟨g1, g2, _⟩ := h3.write h2 i d.data.toList n
  exact (dwrite_any F x p S V i d n w h4 h3.ok h3.fit hsz).mono fun e w' q => ⟨q.1, EAt.of h1 h5 g2 g1 q.2⟩
theorem ebarrier_at (B x p : Nat) (S : St) (V : Dv) (w : World) (h : EAt w B x p S V) :
    Calls Tryz.prog 97 #[.pointer (some ⟨x, 0, none⟩)] w fun e w' => e = .returned (.int .i64 (S.flush (V.first : Int) (V.cnt : Int)).2) ∧ EAt w' B x p (S.flush (V.first : Int) (V.cnt : Int)).1 V ∧ Below B w w' := by
  obtain ⟨h1, h2, h3, F, h4, h5⟩ := h
  exact (barrier_any F x p S V w h4 h3.fit).mono fun e w' q => ⟨q.1, EAt.of h1 h5 (h2.flush _ _).1 (h3.flush h2) q.2⟩
theorem ecount_at (B x p : Nat) (S : St) (V : Dv) (w : World) (h : EAt w B x p S V) :
    Calls Tryz.prog 63 #[.pointer (some ⟨x, 0, none⟩)] w fun e w' => e = .returned (.int .i64 (V.cnt : Int)) ∧ w = w' := by
  obtain ⟨h1, h2, h3, F, ⟨Fd, Fv, _, hv, _⟩, h5⟩ := h
  exact count_any' Fv x p V w hv
/-- the extent's disk alone -/
theorem EAt.disk {w : World} {B x p : Nat} {S : St} {V : Dv} (h : EAt w B x p S V) : At w B p S := by
  obtain ⟨h1, h2, h3, F, ⟨Fd, Fv, hd, _, g1, _⟩, h5⟩ := h
  exact ⟨Fd, hd, fun k hk => ⟨h5 k (g1 k hk).1, (g1 k hk).2.2⟩⟩
theorem enew_at (B p : Nat) (S : St) (f c m : Int) (w : World) (h : At w B p S) (hB : B ≤ w.heap.size) (hf : In64 f) (hc : In64 c) (hm : In64 m) (hn : nwE S f c m = 0) :
    Calls Tryz.prog 43 #[.pointer (some ⟨p, 0, none⟩), .int .i64 f, .int .i64 c, .int .i64 m] w fun e w' => e = .returned (.tuple #[.pointer (some ⟨w.heap.size, 0, none⟩), .int .i64 0]) ∧ EAt w' B w.heap.size p S (newV f c m) ∧ Below w.heap.size w w' := by
  obtain ⟨F, hd, hF⟩ := h
  refine (dnew_any F p S f c m w hd hf hc hm).mono fun e w' q => ?_
  rw [if_pos hn] at q
  obtain ⟨rfl, rfl⟩ := q
  have hb : Below w.heap.size w (w.alloc (.cells (dvCells p (.slice none 0 0) (newV f c m)) 117)) := (Below.refl _ w).alloc (Nat.le_refl _) _
  have hs : (w.alloc (.cells (dvCells p (.slice none 0 0) (newV f c m)) 117)).heap.size = w.heap.size + 1 := by simp
  refine ⟨rfl, ⟨by rw [hs]; omega, hd.ok, newV_good hd.ok hn, fun k => F k ∨ k = w.heap.size, ⟨F, fun k => k = w.heap.size, hd.below hb, ⟨rfl, .slice none 0 0, block_new w _, World.ownsRow_nil _ _ _ _, (fun j hj => by cases hj), Nat.zero_le _⟩, fun k hk => ⟨.inl hk, fun e => by have := (hF k hk).2; omega, by rw [hs]; have := (hF k hk).2; omega⟩, fun k hk => ⟨.inr hk, by rw [hs]; omega⟩⟩, fun k hk => ?_⟩, hb⟩
  rcases hk with hk | hk
  · exact (hF k hk).1
  · omega
theorem enew_no (B p : Nat) (S : St) (f c m : Int) (w : World) (h : At w B p S) (hf : In64 f) (hc : In64 c) (hm : In64 m) (hn : nwE S f c m ≠ 0) :
    Calls Tryz.prog 43 #[.pointer (some ⟨p, 0, none⟩), .int .i64 f, .int .i64 c, .int .i64 m] w fun e w' => e = .returned (.tuple #[.pointer none, .int .i64 150]) ∧ w = w' := by
  obtain ⟨F, hd, hF⟩ := h
  refine (dnew_any F p S f c m w hd hf hc hm).mono fun e w' q => ?_
  rw [if_neg hn] at q
  exact ⟨q.1, q.2.symm⟩
end Go.Proofs.YtjippoejaieneaaGreat
