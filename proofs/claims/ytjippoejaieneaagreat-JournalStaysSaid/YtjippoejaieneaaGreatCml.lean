/- Extents over a disk on which the power does not go; a crash behind a barrier. Conditions: ints are within 64 bits. -/
import Derived.Test.YtjippoejaieneaaGreatJst
namespace Go.Proofs.YtjippoejaieneaaGreat
open Go.RowKit Go.Maps Go.Lib
set_option maxRecDepth 20000
set_option linter.unusedVariables false

open Go.RowKit Go.Maps
set_option maxRecDepth 20000
set_option linter.unusedVariables false

theorem calm_wrS {n : Nat} {S : St} (h : Calm n S) {V : Dv} (hf : Fit S V) (i : Int) (d : Bts) (m : Int) :
    (refE S V i = 0 ∧ bytE d m = 0 ∧ 0 ≤ i ∧ i < (V.cnt : Int) ∧ wrE S V i d m = 0 ∧ wrS S V i d m = S.put (V.first + i.toNat) (blkB d m)) ∨ (wrE S V i d m ≠ 0 ∧ wrS S V i d m = S) := by
  rcases wrS_cases h.ok hf i d m with ⟨h1, hz, hb, _⟩ | h2 | ⟨h1, h2, _⟩
  · obtain ⟨hdd, h0, hi⟩ := refE_ok hz
    refine .inl ⟨hz, hb, h0, hi, h1, ?_⟩
    have hl := blkB_len m (bytE_ok hb).1
    have e2 : wrS S V i d m = (S.write ((V.first : Int) + i) (blkB d m)).1 := by unfold wrS; rw [if_neg (by rintro (z | z); exact z hz; exact z hb)]
    rw [e2, write_ok h.ok hf hdd h0 hi hl]
    have : (S.put (V.first + i.toNat) (blkB d m)).change = (S.put (V.first + i.toNat) (blkB d m), 0) := by unfold St.change; rw [if_pos (show (S.put (V.first + i.toNat) (blkB d m)).armed = 0 from h.armed)]
    rw [this]
  · exact .inr h2
  · exfalso
    have hz : refE S V i = 0 := by
      by_cases q : refE S V i = 0
      · exact q
      · unfold wrS at h2; rw [if_pos (.inl q), h.dead] at h2; cases h2
    have hb : bytE d m = 0 := by
      by_cases q : bytE d m = 0
      · exact q
      · unfold wrS at h2; rw [if_pos (.inr q), h.dead] at h2; cases h2
    obtain ⟨hdd, h0, hi⟩ := refE_ok hz
    have hl := blkB_len m (bytE_ok hb).1
    have e2 : wrS S V i d m = (S.write ((V.first : Int) + i) (blkB d m)).1 := by unfold wrS; rw [if_neg (by rintro (z | z); exact z hz; exact z hb)]
    have hc := h.write ((V.first : Int) + i) (blkB d m)
    rw [e2, hc.dead] at h2
    cases h2
theorem calmWr {n : Nat} {S : St} (h : Calm n S) {V : Dv} (hf : Fit S V) (i : Int) (d : Bts) (m : Int) : Calm n (wrS S V i d m) := by
  unfold wrS
  split
  · exact h
  · exact h.write _ _
theorem calm_flush {n : Nat} {S : St} (h : Calm n S) {V : Dv} (hk : V.ok) (hf : Fit S V) : S.flush (V.first : Int) (V.cnt : Int) = (S.calm V.first (V.first + V.cnt), 0) := by
  have h1 := hk.cnt
  unfold Fit at hf
  unfold St.flush
  rw [h.dead, if_neg (by simp), if_neg (by omega), h.change]
  simp only [if_true, Int.toNat_natCast]
theorem bar_calm {n : Nat} {S : St} (h : Calm n S) {V : Dv} (hk : V.ok) (hf : Fit S V) : (S.flush (V.first : Int) (V.cnt : Int)).2 = 0 := by rw [calm_flush h hk hf]
open Go.RowKit Go.Maps Go.Lib
set_option maxRecDepth 20000
set_option linter.unusedVariables false

theorem lose_oneN {S : St} (ho : S.ok) (ch : List Int) (j : Nat) (hj : j < S.count) : (S.lose ch).revive.one full j = S.one (part ch) j := by
  have h1 : (S.lose ch).revive.wr j = none := rfl
  rw [one_none h1]
  show sec (S.left (part ch)) j = _
  unfold St.left
  exact sec_secs (c := S.count) (fun i hi => S.one_len ho (part ch) (part_le ch) i hi) j hj
/-- behind a barrier a crash takes nothing of the extent -/
theorem good_back {n : Nat} {S : St} {V : Dv} (hc : Calm n S) (h : Good S V) (ch : List Int) :
    Good ((S.calm V.first (V.first + V.cnt)).lose ch) V ∧ Good ((S.calm V.first (V.first + V.cnt)).lose ch).revive V ∧ ((S.calm V.first (V.first + V.cnt)).lose ch).revive.ok ∧ ((S.calm V.first (V.first + V.cnt)).lose ch).ok ∧ ((S.calm V.first (V.first + V.cnt)).lose ch).revive.dead = false ∧ ((S.calm V.first (V.first + V.cnt)).lose ch).revive.count = S.count := by
  have hg := h.flush hc.ok
  have hfl := hc.flush (V.first : Int) (V.cnt : Int)
  rw [calm_flush hc h.ok h.fit] at hg hfl
  obtain ⟨T, hT⟩ : ∃ T, T = S.calm V.first (V.first + V.cnt) := ⟨_, rfl⟩
  have hcnt : T.count = S.count := by rw [hT]; exact S.calm_count hc.ok _ _
  have hwr : ∀ j, V.first ≤ j → j < V.first + V.cnt → T.wr j = none := fun j h1 h2 => by
    rw [hT]; show (if V.first ≤ j ∧ j < V.first + V.cnt then none else S.wr j) = none; rw [if_pos ⟨h1, h2⟩]
  simp only [← hT] at hg hfl ⊢
  clear hT
  obtain ⟨l1, l2⟩ := hfl.ok.lose ch
  have hr : (T.lose ch).revive.ok := l1.revive
  refine ⟨hg.cnt l2 (fun z => by cases z), hg.cnt l2 (fun _ => coh_same (hg.coh hfl.dead) fun j h1 h2 => ?_), hr, l1, rfl, l2.trans hcnt⟩
  rw [lose_oneN hfl.ok ch j (by have := hg.fit.1; omega), one_none (hwr j h1 h2), one_none (hwr j h1 h2)]
theorem ecrash_at (B x p : Nat) (S : St) (V : Dv) (w : World) (h : EAt w B x p S V) (G : Nat → Prop) (v : Value) (ch : List Int) (hcv : CV w G v ch) (hd : S.dead = false) (hg : Good (S.lose ch) V) (ho : (S.lose ch).ok) :
    Calls Tryz.prog 32 #[.pointer (some ⟨p, 0, none⟩), v] w fun e w' => e = .returned (.int .i64 0) ∧ EAt w' B x p (S.lose ch) V ∧ Below B w w' := by
  obtain ⟨h1, h2, h3, F, ⟨Fd, Fv, hdk, hv, g1, g2⟩, h5⟩ := h
  have := crash_any Fd p S w hdk G v ch hcv
  unfold St.crash at this
  rw [hd, if_neg (by simp)] at this
  exact this.mono fun e w' z => ⟨z.1, EAt.of h1 h5 ho hg (EE.disk (S := S) hv g1 g2 z.2)⟩
theorem erevive_at (B x p : Nat) (S : St) (V : Dv) (w : World) (h : EAt w B x p S V) (hg : Good S.revive V) (ho : S.revive.ok) :
    Calls Tryz.prog 19 #[.pointer (some ⟨p, 0, none⟩)] w fun e w' => e = .returned (.tuple #[]) ∧ EAt w' B x p S.revive V ∧ Below B w w' := by
  obtain ⟨h1, h2, h3, F, ⟨Fd, Fv, hdk, hv, g1, g2⟩, h5⟩ := h
  exact (revive_any Fd p S w hdk).mono fun e w' z => ⟨z.1, EAt.of h1 h5 ho hg (EE.disk (S := S) hv g1 g2 ⟨Fd, z.2.1, Gr.refl _ _ _, z.2.2.1⟩)⟩

theorem calm_stp {n : Nat} {S : St} {V : Dv} (h : Calm n S) (hg : Good S V) (s : Stp) : stpE S V s ≠ 2 ∧ Calm n (stpS S V s) := by
  cases s with
  | wr i d m =>
    refine ⟨?_, calmWr h hg.fit i d m⟩
    show wrE S V i d m ≠ 2
    have := h.dead
    rcases wrS_cases h.ok hg.fit i d m with ⟨h1, _⟩ | ⟨h1, h2⟩ | ⟨h1, h2, _⟩
    · omega
    · by_cases hz : refE S V i = 0
      · by_cases hb : bytE d m = 0
        · exfalso
          apply h1
          obtain ⟨hdd, h0, hi⟩ := refE_ok hz
          unfold wrE
          rw [if_neg (by simpa using hz), if_neg (by simpa using hb), write_ok h.ok hg.fit hdd h0 hi (blkB_len m (bytE_ok hb).1)]
          have : (S.put (V.first + i.toNat) (blkB d m)).change = (S.put (V.first + i.toNat) (blkB d m), 0) := by unfold St.change; rw [if_pos (show (S.put (V.first + i.toNat) (blkB d m)).armed = 0 from h.armed)]
          rw [this]
        · have e : wrE S V i d m = bytE d m := by unfold wrE; rw [if_neg (by simpa using hz), if_pos hb]
          rw [e]; unfold bytE
          split
          · omega
          · split <;> omega
      · have e : wrE S V i d m = refE S V i := by unfold wrE; rw [if_pos hz]
        rw [e]; unfold refE
        rw [this]
        simp only [Bool.false_eq_true, if_false]
        split <;> omega
    · have c := (calmWr h hg.fit i d m).dead
      rw [h2] at c; cases c
  | bar =>
    refine ⟨?_, h.flush _ _⟩
    show (S.flush (V.first : Int) (V.cnt : Int)).2 ≠ 2
    rw [bar_calm h hg.ok hg.fit]; omega
theorem calm_run {n : Nat} : ∀ (l : List Stp) {S : St} {V : Dv}, Calm n S → Good S V → gone l S V = false ∧ Calm n (runS l S V).1
  | [], S, V, h, hg => ⟨rfl, h⟩
  | s :: r, S, V, h, hg => by
    obtain ⟨h1, h2⟩ := calm_stp h hg s
    obtain ⟨g1, g2, _⟩ := stp_good h.ok hg s
    simp only [gone, runS, if_neg h1]
    exact calm_run r h2 g1
end Go.Proofs.YtjippoejaieneaaGreat
