/- What a transaction and a checkpoint do to the cells, while the power is there. No conditions. -/
import Derived.Test.YtjippoejaieneaaGreatCel
namespace Go.Proofs.YtjippoejaieneaaGreat
open Go.RowKit Go.Maps
set_option maxRecDepth 20000
set_option linter.unusedVariables false

/-- what a cell has -/
def cel (S : St) (V : Dv) (J : Jn) (c : Nat) : Bts := match J.last c with | some d => d | none => rdD S V ((J.area : Int) + (c : Int))
def CelOk (S : St) (V : Dv) (J : Jn) : Prop := ∀ c : Nat, c < V.cnt - J.area → J.last c = none → rdE S V ((J.area : Int) + (c : Int)) = 0
theorem padB_full {d : Bts} (h : d.length = 116) : padB d = d := by unfold padB; rw [h]; simp
theorem keysN_mem {c k : Nat} {M : Nat → Option Bts} : k ∈ keysN c M ↔ k < c ∧ (M k).isSome = true := by unfold keysN; rw [List.mem_filter, List.mem_range]
theorem stOk0 : stOk 0 := ⟨by omega, by omega⟩
theorem headW_ok {V : Dv} {h f : Int} (h0 : 0 ≤ h) (h1 : h ≤ 4611686018427387904) (hc : 4 < V.cnt) : okStp V (headW h f) := by
  refine ⟨?_, ?_, ?_, h0, h1⟩
  · show 0 ≤ h % 2; omega
  · show h % 2 < _; omega
  · show (Cd.putS f 8).length ≤ 116; rw [Cd.putS_length]; omega
theorem homeS_ok {V : Dv} {J : Jn} {n : Int} (hok : J.ok V) (hh : J.head ≠ 4611686018427387904) : ∀ s ∈ homeS J.area J.last (keysN (V.cnt - J.area) J.last) J.head n, okStp V s := by
  intro s hs
  have a0 := hok.a0; have a1 := hok.a1; have h0 := hok.h0; have h1 := hok.h1
  unfold homeS homS at hs
  rw [List.take_length] at hs
  rcases List.mem_append.1 hs with hs | hs
  · rcases List.mem_cons.1 hs with rfl | hs
    · trivial
    · obtain ⟨c, hc, rfl⟩ := List.mem_map.1 hs
      obtain ⟨c1, c2⟩ := keysN_mem.1 hc
      obtain ⟨d, hd⟩ := Option.isSome_iff_exists.1 c2
      refine ⟨by omega, by omega, ?_, stOk0⟩
      rw [hd]
      have := hok.last c d hd
      simp [this]
  · simp only [List.mem_cons, List.not_mem_nil, or_false] at hs
    rcases hs with rfl | rfl | rfl
    · trivial
    · exact headW_ok (by omega) (by omega) (by omega)
    · trivial
theorem lastW_homeS {V : Dv} {J : Jn} {n : Int} (hok : J.ok V) (c : Nat) : lastW (homeS J.area J.last (keysN (V.cnt - J.area) J.last) J.head n) ((J.area : Int) + (c : Int)) = if c ∈ keysN (V.cnt - J.area) J.last then some ((J.last c).getD zD, 0) else none := by
  have a0 := hok.a0; have h0 := hok.h0
  unfold homeS
  rw [lastW_app, lastW_home _ _ _ _ _ (Nat.le_refl _), List.take_length]
  have : lastW [Stp.bar, headW (J.head + 1) n, Stp.bar] ((J.area : Int) + (c : Int)) = none := by
    simp only [headW, lastW]
    rw [if_neg (by omega)]
  rw [this]
/-- laying home keeps the cells -/
theorem ck_cel {n : Nat} {S : St} {V : Dv} {J : Jn} (hc : Calm n S) (hg : Good S V) (hok : J.ok V) (h : CelOk S V J) :
    CelOk (runS (ckS J V) S V).1 (runS (ckS J V) S V).2 (ckJ J) ∧ ∀ c, c < V.cnt - J.area → cel (runS (ckS J V) S V).1 (runS (ckS J V) S V).2 (ckJ J) c = cel S V J c := by
  by_cases q : ckNo J
  · have e1 : ckS J V = [] := if_pos q
    have e2 : ckJ J = J := if_pos q
    rw [e1, e2]
    exact ⟨h, fun c _ => rfl⟩
  · have e1 : ckS J V = homeS J.area J.last (keysN (V.cnt - J.area) J.last) J.head J.next := if_neg q
    have e2 : ckJ J = J0 (J.head + 1) J.next J := if_neg q
    have hh : J.head ≠ 4611686018427387904 := fun z => q (.inl z)
    have ho := homeS_ok (n := J.next) hok hh
    rw [e1, e2]
    have key : ∀ c, c < V.cnt - J.area → rdE (runS (homeS J.area J.last (keysN (V.cnt - J.area) J.last) J.head J.next) S V).1 (runS (homeS J.area J.last (keysN (V.cnt - J.area) J.last) J.head J.next) S V).2 ((J.area : Int) + (c : Int)) = 0 ∧ rdD (runS (homeS J.area J.last (keysN (V.cnt - J.area) J.last) J.head J.next) S V).1 (runS (homeS J.area J.last (keysN (V.cnt - J.area) J.last) J.head J.next) S V).2 ((J.area : Int) + (c : Int)) = cel S V J c := fun c hcc => by
      have a1 := hok.a1
      obtain ⟨r1, r2⟩ := run_rd hc hg ho (k := (J.area : Int) + (c : Int)) ⟨by omega, by omega⟩
      have hl := lastW_homeS (n := J.next) hok c
      cases hz : J.last c with
      | none =>
        rw [if_neg (by rw [keysN_mem, hz]; simp)] at hl
        obtain ⟨x1, x2, _⟩ := r1 hl
        rw [x1, x2]
        refine ⟨h c hcc hz, ?_⟩
        unfold cel; rw [hz]
      | some d =>
        have hdl := hok.last c d hz
        rw [if_pos (by rw [keysN_mem, hz]; exact ⟨hcc, rfl⟩), hz] at hl
        simp only [Option.getD_some] at hl
        obtain ⟨x1, x2, _⟩ := r2 d 0 hl (by omega) stOk0
        rw [x1, x2]
        refine ⟨rfl, ?_⟩
        unfold cel; rw [hz]; exact padB_full hdl
    have hcn : (runS (homeS J.area J.last (keysN (V.cnt - J.area) J.last) J.head J.next) S V).2.cnt = V.cnt := run_cnt hc.ok hg
    refine ⟨fun c hcc _ => ?_, fun c hcc => ?_⟩
    · rw [hcn] at hcc; exact (key c hcc).1
    · exact (key c hcc).2
/-- the cells behind a transaction -/
def bhF (f : Nat → Bts) (l : List Wt) : Nat → Bts := l.foldl (fun f x => fun i => if i = x.c.toNat then padB x.d.data.toList else f i) f
theorem putM_cel (R : Nat → Bts) : ∀ (l : List Wt) (M : Nat → Option Bts) (c : Nat), (match putM M l c with | some d => d | none => R c) = bhF (fun c => match M c with | some d => d | none => R c) l c
  | [], M, c => rfl
  | x :: r, M, c => by
    have ih := putM_cel R r (putM1 M x) c
    unfold putM bhF at ih ⊢
    simp only [List.foldl_cons] at ih ⊢
    rw [ih]
    have e : (fun c => match putM1 M x c with | some d => d | none => R c) = (fun i => if i = x.c.toNat then padB x.d.data.toList else match M i with | some d => d | none => R i) := by
      funext i
      unfold putM1
      by_cases q : i = x.c.toNat
      · rw [if_pos q, if_pos q]
      · rw [if_neg q, if_neg q]
    rw [e]
theorem rec_ok {V : Dv} {K : Jn} {l : List Wt} (hk : K.ok V) (hfit : K.en + (1 + (l.length : Int)) ≤ (K.area : Int)) (hl : l.length ≤ 40) (hm : ∀ y ∈ l, y.d.size ≤ 116) : ∀ k, k ≤ l.length → ∀ s ∈ recS K.en K.next l k, okStp V s := by
  intro k hkl s hs
  have a1 := hk.a1; have e0 := hk.e0; have n0 := hk.n0; have n1 := hk.n1
  have hst : stOk K.next := ⟨by omega, by omega⟩
  unfold recS at hs
  rcases List.mem_cons.1 hs with rfl | hs
  · exact ⟨by omega, by omega, by rw [recB_len]; omega, hst⟩
  · obtain ⟨i, hi, rfl⟩ := List.mem_map.1 hs
    have hi := List.mem_range.1 hi
    refine ⟨by omega, by omega, ?_, hst⟩
    unfold datL
    rw [List.getElem?_eq_getElem (by omega)]
    have := hm l[i] (List.getElem_mem _)
    simp only [Option.map_some, Option.getD_some, baList]
    exact this
theorem takeJ_area (J : Jn) (l : List Wt) : (takeJ J l).area = J.area := rfl
/-- a transaction writes its cells -/
theorem cm_cel {n : Nat} {S : St} {V : Dv} {J : Jn} {l : List Wt} (hc : Calm n S) (hg : Good S V) (hok : J.ok V) (h : CelOk S V J) (go : cmGo J V l) :
    CelOk (runS (cmS J V l) S V).1 (runS (cmS J V l) S V).2 (cmJ J V l) ∧ ∀ c, c < V.cnt - J.area → cel (runS (cmS J V l) S V).1 (runS (cmS J V l) S V).2 (cmJ J V l) c = bhF (cel S V J) l c := by
  obtain ⟨f1, f2, f3⟩ := len_fits hok go
  obtain ⟨r1, r2, r3, r4⟩ := refJ_zero go.2.1
  have hm := mem_ok r2 r3
  have hP : CelOk (runS (cmP J V l) S V).1 (runS (cmP J V l) S V).2 (cmK J l) ∧ ∀ c, c < V.cnt - J.area → cel (runS (cmP J V l) S V).1 (runS (cmP J V l) S V).2 (cmK J l) c = cel S V J c := by
    unfold cmP cmK
    split
    · exact ck_cel hc hg hok h
    · exact ⟨h, fun c _ => rfl⟩
  have hK := cmK_ok (l := l) hok
  have hKa := cmK_area J l
  obtain ⟨c1, c2⟩ := calm_run (cmP J V l) hc hg
  obtain ⟨g1, g2, _⟩ := run_good (cmP J V l) hc.ok hg
  have hcn : (runS (cmP J V l) S V).2.cnt = V.cnt := run_cnt hc.ok hg
  obtain ⟨e1, e2⟩ := cm_yes go
  have er : runS (cmS J V l) S V = runS (recS (cmK J l).en (cmK J l).next l l.length) (runS (cmP J V l) S V).1 (runS (cmP J V l) S V).2 := by rw [e1, run_app, c1]; rfl
  rw [e2, er]
  generalize (runS (cmP J V l) S V).1 = S1 at *
  generalize (runS (cmP J V l) S V).2 = V1 at *
  generalize cmK J l = K at *
  have hK1 : K.ok V1 := hK.cnt hcn
  have ho := rec_ok hK1 (l := l) (by rw [hKa]; exact f1) f3 (fun y hy => (hm y hy).2.2) l.length (Nat.le_refl _)
  have key : ∀ c, c < V.cnt - J.area → rdE (runS (recS K.en K.next l l.length) S1 V1).1 (runS (recS K.en K.next l l.length) S1 V1).2 ((K.area : Int) + (c : Int)) = rdE S1 V1 ((K.area : Int) + (c : Int)) ∧ rdD (runS (recS K.en K.next l l.length) S1 V1).1 (runS (recS K.en K.next l l.length) S1 V1).2 ((K.area : Int) + (c : Int)) = rdD S1 V1 ((K.area : Int) + (c : Int)) := fun c hcc => by
    have a1 := hok.a1
    obtain ⟨x1, _⟩ := run_rd c2 g1 ho (k := (K.area : Int) + (c : Int)) ⟨by omega, by omega⟩
    obtain ⟨y1, y2, _⟩ := x1 (lastW_recS _ _ _ _ _ (.inr (by omega)))
    exact ⟨y1, y2⟩
  have hcn2 : (runS (recS K.en K.next l l.length) S1 V1).2.cnt = V1.cnt := run_cnt g2 g1
  refine ⟨fun c hcc hz => ?_, fun c hcc => ?_⟩
  · rw [hcn2, hcn] at hcc
    change c < V.cnt - K.area at hcc
    rw [hKa] at hcc
    have hz2 : putM K.last l c = none := hz
    have hzK : K.last c = none := by
      cases w : K.last c with
      | none => rfl
      | some d =>
        exfalso
        have : ∀ (l' : List Wt) (M : Nat → Option Bts), (M c).isSome = true → (putM M l' c).isSome = true := by
          intro l'
          induction l' with
          | nil => intro M hM; exact hM
          | cons a r ih =>
            intro M hM
            refine ih (putM1 M a) ?_
            unfold putM1; split
            · rfl
            · exact hM
        have := this l K.last (by rw [w]; rfl)
        rw [hz2] at this; cases this
    show rdE _ _ ((K.area : Int) + (c : Int)) = 0
    rw [(key c hcc).1]
    exact hP.1 c (by rw [hcn, hKa]; exact hcc) hzK
  · show (match putM K.last l c with | some d => d | none => rdD _ _ ((K.area : Int) + (c : Int))) = _
    rw [(key c hcc).2, putM_cel (fun c => rdD S1 V1 ((K.area : Int) + (c : Int))) l K.last c]
    have hf : ∀ (l' : List Wt) (f g : Nat → Bts), (∀ i, i < V.cnt - J.area → f i = g i) → ∀ i, i < V.cnt - J.area → bhF f l' i = bhF g l' i := by
      intro l'
      induction l' with
      | nil => intro f g hfg; exact hfg
      | cons a r ih =>
        intro f g hfg
        refine ih _ _ (fun i hi => ?_)
        show (if i = a.c.toNat then _ else f i) = (if i = a.c.toNat then _ else g i)
        rw [hfg i hi]
    exact hf l _ _ (fun i hi => hP.2 i hi) c hcc
end Go.Proofs.YtjippoejaieneaaGreat
