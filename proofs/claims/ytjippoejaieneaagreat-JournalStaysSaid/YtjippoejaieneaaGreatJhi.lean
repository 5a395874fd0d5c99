/- What the heads and the records of a journal have, while the power is there. No conditions. -/
import Derived.Test.YtjippoejaieneaaGreatJld
namespace Go.Proofs.YtjippoejaieneaaGreat
open Go.RowKit Go.Maps
set_option maxRecDepth 20000
set_option linter.unusedVariables false

def SB (S : St) (V : Dv) (k : Int) (d : Bts) (m : Int) : Prop := sct S V k = blkB d m ∧ d.length ≤ 116 ∧ stOk m
theorem lastW_ok {V : Dv} : ∀ {l : List Stp}, (∀ s ∈ l, okStp V s) → ∀ {i : Int} {d : Bts} {m : Int}, lastW l i = some (d, m) → d.length ≤ 116 ∧ stOk m
  | [], _, i, d, m, h => by cases h
  | .bar :: r, ho, i, d, m, h => lastW_ok (l := r) (fun s hs => ho s (List.mem_cons_of_mem _ hs)) (by simpa only [lastW] using h)
  | .wr i' d' m' :: r, ho, i, d, m, h => by
    simp only [lastW] at h
    cases e : lastW r i with
    | some z =>
      rw [e] at h
      exact lastW_ok (l := r) (fun s hs => ho s (List.mem_cons_of_mem _ hs)) (e.trans h)
    | none =>
      rw [e] at h
      simp only at h
      split at h
      · injection h with h; injection h with h1 h2
        have := ho _ (List.mem_cons_self)
        rw [← h1, ← h2]
        exact ⟨this.2.2.1, this.2.2.2⟩
      · cases h
theorem lastW_st {nx : Int} : ∀ {l : List Stp}, (∀ i d m, Stp.wr i d m ∈ l → m = nx) → ∀ {i : Int} {d : Bts} {m : Int}, lastW l i = some (d, m) → m = nx
  | [], _, i, d, m, h => by cases h
  | .bar :: r, ho, i, d, m, h => lastW_st (l := r) (fun i d m hs => ho i d m (List.mem_cons_of_mem _ hs)) (by simpa only [lastW] using h)
  | .wr i' d' m' :: r, ho, i, d, m, h => by
    simp only [lastW] at h
    cases e : lastW r i with
    | some z =>
      rw [e] at h
      exact lastW_st (l := r) (fun i d m hs => ho i d m (List.mem_cons_of_mem _ hs)) (e.trans h)
    | none =>
      rw [e] at h
      simp only at h
      split at h
      · injection h with h; injection h with h1 h2
        rw [← h2]
        exact ho _ _ _ List.mem_cons_self
      · cases h
theorem SB.run {n : Nat} {l : List Stp} {S : St} {V : Dv} {k : Int} {d : Bts} {m : Int} (hc : Calm n S) (hg : Good S V) (ho : ∀ s ∈ l, okStp V s) (hk : 0 ≤ k ∧ k < (V.cnt : Int)) (hl : lastW l k = none) (h : SB S V k d m) : SB (runS l S V).1 (runS l S V).2 k d m := by
  have := run_sct l hc hg ho k hk
  rw [hl] at this
  exact ⟨this.trans h.1, h.2⟩
theorem SB.new {n : Nat} {l : List Stp} {S : St} {V : Dv} {k : Int} {d : Bts} {m : Int} (hc : Calm n S) (hg : Good S V) (ho : ∀ s ∈ l, okStp V s) (hk : 0 ≤ k ∧ k < (V.cnt : Int)) (hl : lastW l k = some (d, m)) : SB (runS l S V).1 (runS l S V).2 k d m := by
  have := run_sct l hc hg ho k hk
  rw [hl] at this
  exact ⟨this, lastW_ok ho hl⟩
def HI (S : St) (V : Dv) (J : Jn) : Prop := ∃ fs : Int, 1 ≤ fs ∧ fs ≤ 4611686018427387904 ∧ SB S V (J.head % 2) (Cd.putS fs 8) J.head ∧ (∃ d m, SB S V ((J.head + 1) % 2) d m ∧ m < J.head) ∧ (∀ k : Nat, 2 ≤ k → k < J.area → ∃ d m, SB S V (k : Int) d m ∧ m < J.next) ∧
  (J.en ≤ 2 → fs = J.next ∧ (∀ c, J.last c = none) ∧ ∀ j, V.first ≤ j → j < V.first + V.cnt → S.wr j = none)
theorem bar_end {n : Nat} {S : St} {V : Dv} (hc : Calm n S) (hg : Good S V) (a : List Stp) : ∀ j, V.first ≤ j → j < V.first + V.cnt → (runS (a ++ [.bar]) S V).1.wr j = none := by
  intro j h1 h2
  obtain ⟨c1, c2⟩ := calm_run a hc hg
  obtain ⟨g1, g2, _, g4, g5, _⟩ := run_good a hc.ok hg
  rw [run_app, c1]
  obtain ⟨s1, _⟩ := calm_stp c2 g1 .bar
  have e : (runS [.bar] (runS a S V).1 (runS a S V).2).1 = ((runS a S V).1.flush ((runS a S V).2.first : Int) ((runS a S V).2.cnt : Int)).1 := by simp only [runS]; rw [if_neg s1]; rfl
  show (runS [.bar] (runS a S V).1 (runS a S V).2).1.wr j = none
  rw [e, calm_flush c2 g1.ok g1.fit]
  show (if (runS a S V).2.first ≤ j ∧ j < (runS a S V).2.first + (runS a S V).2.cnt then none else (runS a S V).1.wr j) = none
  rw [g4, g5, if_pos ⟨h1, h2⟩]
theorem lastW_homlow (area : Nat) (M : Nat → Option Bts) (ks : List Nat) (i : Int) (hi : i < (area : Int)) : ∀ (k : Nat), k ≤ ks.length → lastW (homS area M ks k) i = none
  | 0, _ => by unfold homS; simp [lastW]
  | k + 1, hk => by
    rw [homS_succ area M ks k (by omega), lastW_app, lastW_homlow area M ks i hi k (by omega)]
    simp only [lastW]
    rw [if_neg (by omega)]
theorem lastW_homelow {J : Jn} {ks : List Nat} (n i : Int) (hi : i < (J.area : Int)) : lastW (homeS J.area J.last ks J.head n) i = if i = (J.head + 1) % 2 then some (Cd.putS n 8, J.head + 1) else none := by
  unfold homeS
  rw [lastW_app, lastW_homlow _ _ _ i hi _ (Nat.le_refl _)]
  simp only [headW, lastW]
  by_cases q : i = (J.head + 1) % 2
  · rw [if_pos q]
  · rw [if_neg q]
theorem HI.ck {n : Nat} {S : St} {V : Dv} {J : Jn} (hc : Calm n S) (hg : Good S V) (hok : J.ok V) (hh : J.head ≠ 4611686018427387904) (h : HI S V J) : HI (runS (ckS J V) S V).1 (runS (ckS J V) S V).2 (ckJ J) ∧ (ckJ J).en ≤ 2 := by
  by_cases q : ckNo J
  · have e1 : ckS J V = [] := if_pos q
    have e2 : ckJ J = J := if_pos q
    rw [e1, e2]
    refine ⟨h, ?_⟩
    rcases q with z | z
    · exact absurd z hh
    · exact z
  · have e1 : ckS J V = homeS J.area J.last (keysN (V.cnt - J.area) J.last) J.head J.next := if_neg q
    have e2 : ckJ J = J0 (J.head + 1) J.next J := if_neg q
    have ho := homeS_ok (n := J.next) hok hh
    have a0 := hok.a0
    have a1 := hok.a1
    have h0 := hok.h0
    obtain ⟨fs, f1, f2, b1, ⟨d2, m2, b2, lt2⟩, b3, b4⟩ := h
    have hcn : (runS (homeS J.area J.last (keysN (V.cnt - J.area) J.last) J.head J.next) S V).2.cnt = V.cnt := run_cnt hc.ok hg
    have hfi : (runS (homeS J.area J.last (keysN (V.cnt - J.area) J.last) J.head J.next) S V).2.first = V.first := (run_good _ hc.ok hg).2.2.2.1
    rw [e1, e2]
    refine ⟨⟨J.next, hok.n0, hok.n1, ?_, ⟨Cd.putS fs 8, J.head, ?_, ?_⟩, ?_, ?_⟩, by show (2 : Int) ≤ 2; omega⟩
    · show SB _ _ ((J.head + 1) % 2) _ (J.head + 1)
      exact SB.new hc hg ho ⟨by omega, by omega⟩ (by rw [lastW_homelow _ _ (by omega), if_pos rfl])
    · show SB _ _ ((J.head + 1 + 1) % 2) _ _
      have : (J.head + 1 + 1) % 2 = J.head % 2 := by omega
      rw [this]
      exact SB.run hc hg ho ⟨by omega, by omega⟩ (by rw [lastW_homelow _ _ (by omega), if_neg (by omega)]) b1
    · show J.head < J.head + 1; omega
    · intro k k1 k2
      change k < J.area at k2
      obtain ⟨d, m, c1, c2⟩ := b3 k k1 k2
      exact ⟨d, m, SB.run hc hg ho ⟨by omega, by omega⟩ (by rw [lastW_homelow _ _ (by omega), if_neg (by omega)]) c1, c2⟩
    · intro _
      refine ⟨rfl, fun c => rfl, ?_⟩
      rw [hcn, hfi]
      have : homeS J.area J.last (keysN (V.cnt - J.area) J.last) J.head J.next = (homS J.area J.last (keysN (V.cnt - J.area) J.last) (keysN (V.cnt - J.area) J.last).length ++ [.bar, headW (J.head + 1) J.next]) ++ [.bar] := by unfold homeS; simp
      rw [this]
      exact bar_end hc hg _
theorem recS_st (en next : Int) (l : List Wt) (k : Nat) : ∀ i d m, Stp.wr i d m ∈ recS en next l k → m = next := by
  intro i d m h
  unfold recS at h
  rcases List.mem_cons.1 h with e | h
  · injection e
  · obtain ⟨c, _, e⟩ := List.mem_map.1 h
    injection e with _ _ e
    exact e.symm
theorem HI.cm {n : Nat} {S : St} {V : Dv} {J : Jn} {l : List Wt} (hc : Calm n S) (hg : Good S V) (hok : J.ok V) (h : HI S V J) : HI (runS (cmS J V l) S V).1 (runS (cmS J V l) S V).2 (cmJ J V l) := by
  by_cases go : cmGo J V l
  · obtain ⟨f1, f2, f3⟩ := len_fits hok go
    obtain ⟨r1, r2, r3, r4⟩ := refJ_zero go.2.1
    have hm := mem_ok r2 r3
    have hP : HI (runS (cmP J V l) S V).1 (runS (cmP J V l) S V).2 (cmK J l) := by
      unfold cmP cmK
      by_cases q : over J l
      · rw [if_pos q, if_pos q]
        exact (h.ck hc hg hok (fun z => go.2.2 ⟨q, z⟩)).1
      · rw [if_neg q, if_neg q]; exact h
    have hK := cmK_ok (l := l) hok
    have hKa := cmK_area J l
    obtain ⟨c1, c2⟩ := calm_run (cmP J V l) hc hg
    obtain ⟨g1, g2, _⟩ := run_good (cmP J V l) hc.ok hg
    have hcn : (runS (cmP J V l) S V).2.cnt = V.cnt := run_cnt hc.ok hg
    obtain ⟨e1, e2⟩ := cm_yes go
    have er : runS (cmS J V l) S V = runS (recS (cmK J l).en (cmK J l).next l l.length) (runS (cmP J V l) S V).1 (runS (cmP J V l) S V).2 := by rw [e1, run_app, c1]; rfl
    rw [e2, er]
    generalize (runS (cmP J V l) S V).1 = S1 at *
    generalize (runS (cmP J V l) S V).2 = V1 at *
    generalize cmK J l = K at *
    have hK1 : K.ok V1 := hK.cnt hcn
    have ho := rec_ok hK1 (l := l) (by rw [hKa]; exact f1) f3 (fun y hy => (hm y hy).2.2) l.length (Nat.le_refl _)
    have a0 := hK1.a0
    have a1 := hK1.a1
    have en0 := hK1.e0
    have h0 := hK1.h0
    obtain ⟨fs, z1, z2, b1, ⟨d2, m2, b2, lt2⟩, b3, b4⟩ := hP
    refine ⟨fs, z1, z2, ?_, ⟨d2, m2, ?_, lt2⟩, ?_, ?_⟩
    · exact SB.run c2 g1 ho ⟨by show 0 ≤ K.head % 2; omega, by show K.head % 2 < _; omega⟩ (lastW_recS _ _ _ _ _ (.inl (by show K.head % 2 < _; omega))) b1
    · exact SB.run c2 g1 ho ⟨by show 0 ≤ (K.head + 1) % 2; omega, by show (K.head + 1) % 2 < _; omega⟩ (lastW_recS _ _ _ _ _ (.inl (by show (K.head + 1) % 2 < _; omega))) b2
    · intro k k1 k2
      change k < K.area at k2
      obtain ⟨d, m, c3, c4⟩ := b3 k k1 k2
      cases e : lastW (recS K.en K.next l l.length) (k : Int) with
      | none => exact ⟨d, m, SB.run c2 g1 ho ⟨by omega, by omega⟩ e c3, by show m < K.next + 1; omega⟩
      | some z =>
        have hs := lastW_st (recS_st K.en K.next l l.length) (d := z.1) (m := z.2) e
        exact ⟨z.1, z.2, SB.new c2 g1 ho ⟨by omega, by omega⟩ e, by show z.2 < K.next + 1; omega⟩
    · intro z
      exfalso
      change K.en + (1 + (l.length : Int)) ≤ 2 at z
      omega
  · obtain ⟨e1, e2⟩ := cm_no go
    rw [e1, e2]; exact h
theorem HI.bar {n : Nat} {S : St} {V : Dv} {J : Jn} (hc : Calm n S) (hg : Good S V) (hok : J.ok V) (h : HI S V J) : HI (runS [.bar] S V).1 (runS [.bar] S V).2 J := by
  obtain ⟨fs, z1, z2, b1, ⟨d2, m2, b2, lt2⟩, b3, b4⟩ := h
  have ho : ∀ s ∈ [Stp.bar], okStp V s := fun s hs => by rw [List.mem_singleton.1 hs]; trivial
  have a0 := hok.a0
  have a1 := hok.a1
  have h0 := hok.h0
  refine ⟨fs, z1, z2, SB.run hc hg ho ⟨by omega, by omega⟩ rfl b1, ⟨d2, m2, SB.run hc hg ho ⟨by omega, by omega⟩ rfl b2, lt2⟩, fun k k1 k2 => ?_, fun he => ?_⟩
  · obtain ⟨d, m, c3, c4⟩ := b3 k k1 k2
    exact ⟨d, m, SB.run hc hg ho ⟨by omega, by omega⟩ rfl c3, c4⟩
  · obtain ⟨x1, x2, x3⟩ := b4 he
    refine ⟨x1, x2, ?_⟩
    have hcn : (runS [.bar] S V).2.cnt = V.cnt := run_cnt hc.ok hg
    have hfi : (runS [.bar] S V).2.first = V.first := (run_good _ hc.ok hg).2.2.2.1
    rw [hcn, hfi]
    exact bar_end hc hg []
theorem HI.same {S : St} {V V' : Dv} {J : Jn} (h : HI S V J) (h1 : V'.first = V.first) (h2 : V'.cnt = V.cnt) : HI S V' J := by
  have e : ∀ k, sct S V' k = sct S V k := fun k => by unfold sct; rw [h1]
  obtain ⟨fs, z1, z2, b1, ⟨d2, m2, b2, lt2⟩, b3, b4⟩ := h
  refine ⟨fs, z1, z2, ⟨(e _).trans b1.1, b1.2⟩, ⟨d2, m2, ⟨(e _).trans b2.1, b2.2⟩, lt2⟩, fun k k1 k2 => ?_, fun he => ?_⟩
  · obtain ⟨d, m, c3, c4⟩ := b3 k k1 k2
    exact ⟨d, m, ⟨(e _).trans c3.1, c3.2⟩, c4⟩
  · rw [h1, h2]; exact b4 he
theorem HI.laid {b : Nat} {a : Int} (h1 : 1 ≤ b) (h2 : b ≤ 4096) (ha : isA (lV b) a = true) : HI (ldS b) (ldV b) (fmtJ a.toNat) := by
  obtain ⟨hjo, haa⟩ := fmtJ_ok ha
  have a0 := hjo.a0
  have a1 := hjo.a1
  change 4 ≤ a.toNat at a0
  change a.toNat < (lV b).cnt at a1
  have hcnb := (lVcnt b).1
  rw [hcnb] at a1
  have hc := lcalm h1 h2
  have hg := lgood h1 h2
  have ho : ∀ s ∈ fmtS b, okStp (lV b) s := by have := fmtS_ok (V := lV b) (by rw [hcnb]; omega); rwa [hcnb] at this
  have hl0 : lastW (fmtS b) 0 = some (Cd.putS 1 8, 2) := by
    unfold fmtS
    rw [lastW_app, lastW_fmtP]
    rw [if_neg (fun z => by have := z.1; omega), if_pos rfl]; rfl
  refine ⟨1, by omega, by omega, ?_, ⟨[], 0, ?_, by show (0 : Int) < 2; omega⟩, ?_, ?_⟩
  · exact SB.new hc hg ho ⟨by show (0 : Int) ≤ 2 % 2; omega, by show (2 : Int) % 2 < _; rw [hcnb]; omega⟩ hl0
  · exact SB.new hc hg ho ⟨by show (0 : Int) ≤ (2 + 1) % 2; omega, by show (2 + 1 : Int) % 2 < _; rw [hcnb]; omega⟩ (lastW_fmtS _ _ ⟨by show (1 : Int) ≤ (2 + 1) % 2; omega, by show (2 + 1 : Int) % 2 < _; omega⟩)
  · intro k k1 k2
    change k < a.toNat at k2
    exact ⟨[], 0, SB.new hc hg ho ⟨by omega, by rw [hcnb]; omega⟩ (lastW_fmtS _ _ ⟨by omega, by omega⟩), by show (0 : Int) < 1; omega⟩
  · intro _
    refine ⟨rfl, fun c => rfl, ?_⟩
    have hcn : (ldV b).cnt = (lV b).cnt := run_cnt hc.ok hg
    have hfi : (ldV b).first = (lV b).first := (run_good _ hc.ok hg).2.2.2.1
    rw [hcn, hfi]
    exact bar_end hc hg (fmtP (b - 1))
end Go.Proofs.YtjippoejaieneaaGreat
