/- An extent over a disk that crashes and is revived, and two extents over one disk. Conditions: ints are within 64 bits. -/
import Derived.Test.YtnecbbflcpngcaaCaw
namespace Go.Proofs.Ytnecbbflcpngcaa
open Go.RowKit Go.Maps Go.Lib
set_option maxRecDepth 20000
set_option linter.unusedVariables false

theorem lose_oneN {S : St} (ho : S.ok) (ch : List Int) (j : Nat) (hj : j < S.count) : (S.lose ch).revive.one full j = S.one (part ch) j := by
  have h1 : (S.lose ch).revive.wr j = none := rfl
  rw [one_none h1]
  show sec (S.left (part ch)) j = _
  unfold St.left
  exact sec_secs (c := S.count) (fun i hi => S.one_len ho (part ch) (part_le ch) i hi) j hj
/-- behind a barrier a crash takes nothing of the extent -/
theorem good_back {n : Nat} {S : St} {V : Dv} (hc : Calm n S) (h : Good S V) (ch : List Int) :
    Good ((S.calm V.first (V.first + V.cnt)).lose ch) V ∧ Good ((S.calm V.first (V.first + V.cnt)).lose ch).revive V ∧ ((S.calm V.first (V.first + V.cnt)).lose ch).revive.ok ∧ ((S.calm V.first (V.first + V.cnt)).lose ch).ok ∧ ((S.calm V.first (V.first + V.cnt)).lose ch).revive.dead = false ∧ ((S.calm V.first (V.first + V.cnt)).lose ch).revive.count = S.count := by
  have hg := h.flush hc.ok
  have hfl := hc.flush (V.first : Int) (V.cnt : Int)
  rw [calm_flush hc h.ok h.fit] at hg hfl
  obtain ⟨T, hT⟩ : ∃ T, T = S.calm V.first (V.first + V.cnt) := ⟨_, rfl⟩
  have hcnt : T.count = S.count := by rw [hT]; exact S.calm_count hc.ok _ _
  have hwr : ∀ j, V.first ≤ j → j < V.first + V.cnt → T.wr j = none := fun j h1 h2 => by
    rw [hT]; show (if V.first ≤ j ∧ j < V.first + V.cnt then none else S.wr j) = none; rw [if_pos ⟨h1, h2⟩]
  simp only [← hT] at hg hfl ⊢
  clear hT
  obtain ⟨l1, l2⟩ := hfl.ok.lose ch
  have hr : (T.lose ch).revive.ok := l1.revive
  refine ⟨hg.cnt l2 (fun z => by cases z), hg.cnt l2 (fun _ => coh_same (hg.coh hfl.dead) fun j h1 h2 => ?_), hr, l1, rfl, l2.trans hcnt⟩
  rw [lose_oneN hfl.ok ch j (by have := hg.fit.1; omega), one_none (hwr j h1 h2), one_none (hwr j h1 h2)]
theorem ecrash_at (B x p : Nat) (S : St) (V : Dv) (w : World) (h : EAt w B x p S V) (G : Nat → Prop) (v : Value) (ch : List Int) (hcv : CV w G v ch) (hd : S.dead = false) (hg : Good (S.lose ch) V) (ho : (S.lose ch).ok) :
    Calls Try.prog 35 #[.pointer (some ⟨p, 0, none⟩), v] w fun e w' => e = .returned (.int .i64 0) ∧ EAt w' B x p (S.lose ch) V ∧ Below B w w' := by
  obtain ⟨h1, h2, h3, F, ⟨Fd, Fv, hdk, hv, g1, g2⟩, h5⟩ := h
  have := crash_any Fd p S w hdk G v ch hcv
  unfold St.crash at this
  rw [hd, if_neg (by simp)] at this
  exact this.mono fun e w' z => ⟨z.1, EAt.of h1 h5 ho hg (EE.disk (S := S) hv g1 g2 z.2)⟩
theorem erevive_at (B x p : Nat) (S : St) (V : Dv) (w : World) (h : EAt w B x p S V) (hg : Good S.revive V) (ho : S.revive.ok) :
    Calls Try.prog 36 #[.pointer (some ⟨p, 0, none⟩)] w fun e w' => e = .returned (.tuple #[]) ∧ EAt w' B x p S.revive V ∧ Below B w w' := by
  obtain ⟨h1, h2, h3, F, ⟨Fd, Fv, hdk, hv, g1, g2⟩, h5⟩ := h
  exact (revive_any Fd p S w hdk).mono fun e w' z => ⟨z.1, EAt.of h1 h5 ho hg (EE.disk (S := S) hv g1 g2 ⟨Fd, z.2.1, Gr.refl _ _ _, z.2.2.1⟩)⟩

/-! ### two extents over one disk -/
structure Tri (w : World) (B x y p : Nat) (S : St) (V U : Dv) : Prop where
  base : B ≤ w.heap.size
  so : S.ok
  gx : Good S V
  gy : Good S U
  ex : ∃ Fd Fv Fu : Nat → Prop, IsD w Fd p S ∧ IsV w Fv x p V ∧ IsV w Fu y p U ∧ (∀ k, Fd k → B ≤ k ∧ k < w.heap.size ∧ ¬ Fv k ∧ ¬ Fu k) ∧ (∀ k, Fv k → B ≤ k ∧ k < w.heap.size ∧ ¬ Fu k) ∧ ∀ k, Fu k → B ≤ k ∧ k < w.heap.size
theorem Tri.swap {w : World} {B x y p : Nat} {S : St} {V U : Dv} (h : Tri w B x y p S V U) : Tri w B y x p S U V := by
  obtain ⟨h1, h2, h3, h4, Fd, Fv, Fu, hd, hv, hu, d1, d2, d3⟩ := h
  exact ⟨h1, h2, h4, h3, Fd, Fu, Fv, hd, hu, hv, fun k hk => ⟨(d1 k hk).1, (d1 k hk).2.1, (d1 k hk).2.2.2, (d1 k hk).2.2.1⟩, fun k hk => ⟨(d3 k hk).1, (d3 k hk).2, fun z => (d2 k z).2.2 hk⟩, fun k hk => ⟨(d2 k hk).1, (d2 k hk).2.1⟩⟩
theorem triread (B x y p : Nat) (S : St) (V U : Dv) (i : Int) (w : World) (h : Tri w B x y p S V U) (hm : V.mis < 4611686018427387904) :
    Calls Try.prog 34 #[.pointer (some ⟨x, 0, none⟩), .int .i64 i] w fun e w' => e = .returned (.tuple #[.string (ofL (rdD S V i)), .int .i64 (rdN S V i), .int .i64 (rdE S V i)]) ∧ Tri w' B x y p S (rdV S V i) U ∧ Below B w w' := by
  obtain ⟨h1, h2, h3, h4, Fd, Fv, Fu, hd, hv, hu, d1, d2, d3⟩ := h
  have hE : IsE w (fun k => Fd k ∨ Fv k) x p S V := ⟨Fd, Fv, hd, hv, fun k hk => ⟨.inl hk, (d1 k hk).2.2.1, (d1 k hk).2.1⟩, fun k hk => ⟨.inr hk, (d2 k hk).2.1⟩⟩
  refine (dread_any _ x p S V i w hE h3.ok h3.fit h3.coh hm).mono fun e w' z => ⟨z.1, ?_⟩
  obtain ⟨F', ⟨Fd', Fv', hd', hv', g1, g2⟩, gr, c⟩ := z.2
  have key : ∀ k, F' k → B ≤ k ∧ ¬ Fu k := fun k hk => by
    rcases gr k hk with (z | z) | z
    · exact ⟨(d1 k z).1, (d1 k z).2.2.2⟩
    · exact ⟨(d2 k z).1, (d2 k z).2.2⟩
    · exact ⟨by omega, fun q => by have := (d3 k q).2; omega⟩
  have hs := c.size
  refine ⟨⟨by omega, h2, h3.read i, h4, Fd', Fv', Fu, hd', hv', hu.of_heap fun k hk hF => c.block k hk ?_, fun k hk => ⟨(key k (g1 k hk).1).1, (g1 k hk).2.2, (g1 k hk).2.1, (key k (g1 k hk).1).2⟩, fun k hk => ⟨(key k (g2 k hk).1).1, (g2 k hk).2, (key k (g2 k hk).1).2⟩, fun k hk => ⟨(d3 k hk).1, by have := (d3 k hk).2; omega⟩⟩, c.below h1 fun k hk => ?_⟩
  · rintro (z | z)
    · exact (d1 k z).2.2.2 hF
    · exact (d2 k z).2.2 hF
  · rcases hk with z | z
    · exact (d1 k z).1
    · exact (d2 k z).1
theorem trinew (B x p : Nat) (S : St) (V : Dv) (f c m : Int) (w : World) (h : EAt w B x p S V) (hf : In64 f) (hc : In64 c) (hm : In64 m) (hn : nwE S f c m = 0) :
    Calls Try.prog 19 #[.pointer (some ⟨p, 0, none⟩), .int .i64 f, .int .i64 c, .int .i64 m] w fun e w' => ∃ y, e = .returned (.tuple #[.pointer (some ⟨y, 0, none⟩), .int .i64 0]) ∧ Tri w' B x y p S V (newV f c m) ∧ Below B w w' := by
  obtain ⟨h1, h2, h3, F, ⟨Fd, Fv, hd, hv, g1, g2⟩, h5⟩ := h
  refine (dnew_any Fd p S f c m w hd hf hc hm).mono fun e w' z => ?_
  rw [if_pos hn] at z
  obtain ⟨rfl, rfl⟩ := z
  have hb : Below w.heap.size w (w.alloc (.cells (dvCells p (.slice none 0 0) (newV f c m)) 99)) := (Below.refl _ w).alloc (Nat.le_refl _) _
  have hs : (w.alloc (.cells (dvCells p (.slice none 0 0) (newV f c m)) 99)).heap.size = w.heap.size + 1 := by simp
  refine ⟨_, rfl, ⟨by omega, h2, h3, newV_good h2 hn, Fd, Fv, fun k => k = w.heap.size, hd.below hb, hv.below hb, ⟨rfl, .slice none 0 0, block_new w _, World.ownsRow_nil _ _ _ _, (fun j hj => by cases hj), Nat.zero_le _⟩, fun k hk => ⟨h5 k (g1 k hk).1, by have := (g1 k hk).2.2; omega, (g1 k hk).2.1, fun z => by have := (g1 k hk).2.2; omega⟩, fun k hk => ⟨h5 k (g2 k hk).1, by have := (g2 k hk).2; omega, fun z => by have := (g2 k hk).2; omega⟩, fun k hk => ⟨by omega, by omega⟩⟩, hb.mono h1⟩
end Go.Proofs.Ytnecbbflcpngcaa
