/- A text's lines put behind what was made of another's: the same, further on. No conditions but those that each theorem names. -/
import Derived.Test.YtmclcobklcjmnaaDoorJns
namespace Go.Proofs.YtmclcobklcjmnaaDoor
open Go.RowKit Go.Maps
set_option linter.unusedVariables false
set_option linter.unusedSimpArgs false

/-- a way, k lines and n bytes further on -/
def shW (k n : Nat) (x : Way) : Way := ⟨x.line + (k : Int), x.place + n, x.label⟩
def shL (A T : St) (l : Bs) : Option Int := match A.labels l with
  | some v => some v
  | none => (T.labels l).map (fun v => v + (A.prog.length : Int))
/-- S is T behind A, k lines further on -/
structure Behind (A : St) (k : Nat) (T S : St) : Prop where
  prog : S.prog = A.prog ++ T.prog
  labels : ∀ l, S.labels l = shL A T l
  apart : ∀ l, A.labels l = none ∨ T.labels l = none
  ways : S.ways = A.ways ++ T.ways.map (shW k A.prog.length)
theorem Behind.start (A : St) (k : Nat) : Behind A k newSt A where
  prog := by simp [newSt]
  labels := fun l => by unfold shL newSt; cases A.labels l <;> rfl
  apart := fun l => .inr rfl
  ways := by simp [newSt]
theorem sim_add {A T S : St} {k : Nat} (h : Behind A k T S) (l : Bs) (num : Int) :
    (∃ c, addP T l num = .inl c ∧ addP S l (num + (k : Int)) = .inl c) ∨
    (∃ T2, addP T l num = .inr T2 ∧ T.prog.length ≤ T2.prog.length ∧
      ((∃ S2, addP S l (num + (k : Int)) = .inr S2 ∧ Behind A k T2 S2) ∨ (addP S l (num + (k : Int)) = .inl 93 ∧ ∃ x, A.labels x ≠ none) ∨ (addP S l (num + (k : Int)) = .inl 94 ∧ 4096 < A.prog.length + T2.prog.length))) := by
  unfold addP
  by_cases h0 : l = []
  · rw [if_pos h0, if_pos h0]
    exact .inr ⟨T, rfl, Nat.le_refl _, .inl ⟨S, rfl, h⟩⟩
  rw [if_neg h0, if_neg h0]
  by_cases h1 : Lib.hasSuffix l [58] = true
  · rw [if_pos h1, if_pos h1]
    unfold nameP
    generalize Lib.trimSuffix l [58] = x
    by_cases h2 : labB x = false
    · rw [if_pos h2, if_pos h2]
      exact .inl ⟨92, rfl, rfl⟩
    rw [if_neg h2, if_neg h2]
    have hl := h.labels x
    unfold shL at hl
    cases ht : T.labels x with
    | some v =>
      have ha : A.labels x = none := (h.apart x).resolve_right (by rw [ht]; simp)
      rw [ha, ht] at hl
      rw [hl]
      exact .inl ⟨93, by simp, by simp⟩
    | none =>
      refine .inr ⟨_, if_neg (by simp), Nat.le_refl _, ?_⟩
      cases ha : A.labels x with
      | some v =>
        rw [ha] at hl
        refine .inr (.inl ⟨?_, x, by rw [ha]; simp⟩)
        rw [hl]; simp
      | none =>
        rw [ha, ht] at hl
        refine .inl ⟨_, if_neg (by rw [hl]; simp), ⟨h.prog, fun y => ?_, fun y => ?_, h.ways⟩⟩
        · unfold shL
          dsimp only
          by_cases hy : y = x
          · subst hy
            rw [if_pos rfl, if_pos rfl, ha, h.prog, List.length_append]
            simp; omega
          · rw [if_neg hy, if_neg hy]
            exact h.labels y
        · dsimp only
          by_cases hy : y = x
          · subst hy; exact .inl ha
          · rw [if_neg hy]; exact h.apart y
  rw [if_neg h1, if_neg h1]
  cases hb : bofP l with
  | none => exact .inl ⟨92, rfl, rfl⟩
  | some q =>
    obtain ⟨b, lb⟩ := q
    dsimp only
    by_cases h2 : 4096 < T.prog.length + b.length
    · rw [if_pos h2, if_pos (by rw [h.prog, List.length_append]; omega)]
      exact .inl ⟨94, rfl, rfl⟩
    rw [if_neg h2]
    refine .inr ⟨_, rfl, by dsimp only; rw [List.length_append]; omega, ?_⟩
    by_cases h3 : 4096 < S.prog.length + b.length
    · rw [if_pos h3]
      refine .inr (.inr ⟨rfl, ?_⟩)
      rw [h.prog, List.length_append] at h3
      dsimp only
      rw [List.length_append]
      omega
    rw [if_neg h3]
    refine .inl ⟨_, rfl, ⟨?_, h.labels, h.apart, ?_⟩⟩
    · dsimp only; rw [h.prog, List.append_assoc]
    · dsimp only
      by_cases h4 : lb = []
      · rw [if_pos h4, if_pos h4]; exact h.ways
      · rw [if_neg h4, if_neg h4, h.ways, List.map_append, List.append_assoc]
        congr 2
        rw [h.prog, List.length_append, Nat.add_comm]
        rfl
theorem add_mono {T T2 : St} {l : Bs} {num : Int} (h : addP T l num = .inr T2) : T.prog.length ≤ T2.prog.length := by
  unfold addP at h
  split at h
  · injection h with h; subst h; exact Nat.le_refl _
  · split at h
    · unfold nameP at h
      split at h
      · cases h
      · split at h
        · cases h
        · injection h with h; subst h; exact Nat.le_refl _
    · split at h
      · cases h
      · split at h
        · cases h
        · injection h with h; subst h; dsimp only; rw [List.length_append]; omega
theorem adds_mono : ∀ (r : List Bs) (T : St) (n : Nat), (∃ c m, addsP T n r = .inl (c, m) ∧ 0 < m) ∨ ∃ T3, addsP T n r = .inr T3 ∧ T.prog.length ≤ T3.prog.length
  | [], T, n => .inr ⟨T, rfl, Nat.le_refl _⟩
  | l :: r, T, n => by
    rw [adds_cons]
    cases h : addP T l ((n : Int) + 1) with
    | inl c => exact .inl ⟨c, _, rfl, by omega⟩
    | inr T2 =>
      dsimp only
      have hle : T.prog.length ≤ T2.prog.length := add_mono h
      rcases adds_mono r T2 (n + 1) with ⟨c, m, g1, g2⟩ | ⟨T3, g1, g2⟩
      · exact .inl ⟨c, m, g1, g2⟩
      · exact .inr ⟨T3, g1, Nat.le_trans hle g2⟩
theorem sim_adds (A : St) (k : Nat) : ∀ (ls : List Bs) (T S : St) (n : Nat), Behind A k T S →
    (∃ c m, addsP T n ls = .inl (c, m) ∧ 0 < m ∧ (addsP S (n + k) ls = .inl (c, m + (k : Int)) ∨ (∃ m', 0 < m' ∧ addsP S (n + k) ls = .inl (93, m') ∧ ∃ x, A.labels x ≠ none) ∨ (∃ m', 0 < m' ∧ addsP S (n + k) ls = .inl (94, m')))) ∨
    (∃ T2, addsP T n ls = .inr T2 ∧ T.prog.length ≤ T2.prog.length ∧
      ((∃ S2, addsP S (n + k) ls = .inr S2 ∧ Behind A k T2 S2) ∨ (∃ m', 0 < m' ∧ addsP S (n + k) ls = .inl (93, m') ∧ ∃ x, A.labels x ≠ none) ∨ (∃ m', 0 < m' ∧ addsP S (n + k) ls = .inl (94, m') ∧ 4096 < A.prog.length + T2.prog.length)))
  | [], T, S, n, h => .inr ⟨T, rfl, Nat.le_refl _, .inl ⟨S, rfl, h⟩⟩
  | l :: r, T, S, n, h => by
    rw [adds_cons, adds_cons]
    have e : (((n + k : Nat) : Int) + 1) = ((n : Int) + 1) + (k : Int) := by omega
    rw [e]
    rcases sim_add h l ((n : Int) + 1) with ⟨c, h1, h2⟩ | ⟨T2, h1, hle, ⟨S2, h2, hb⟩ | ⟨h2, hx⟩ | ⟨h2, hl⟩⟩
    · rw [h1, h2]
      exact .inl ⟨c, (n : Int) + 1, rfl, by omega, .inl rfl⟩
    · rw [h1, h2]
      dsimp only
      rw [show n + k + 1 = n + 1 + k from by omega]
      rcases sim_adds A k r T2 S2 (n + 1) hb with ⟨c, m, g1, g2, g3⟩ | ⟨T3, g1, g2, g3⟩
      · exact .inl ⟨c, m, g1, g2, g3⟩
      · exact .inr ⟨T3, g1, Nat.le_trans hle g2, g3⟩
    · rw [h1, h2]
      dsimp only
      rcases adds_mono r T2 (n + 1) with ⟨c, m, g1, g2⟩ | ⟨T3, g1, g2⟩
      · exact .inl ⟨c, m, g1, g2, .inr (.inl ⟨_, by omega, rfl, hx⟩)⟩
      · exact .inr ⟨T3, g1, Nat.le_trans hle g2, .inr (.inl ⟨_, by omega, rfl, hx⟩)⟩
    · rw [h1, h2]
      dsimp only
      rcases adds_mono r T2 (n + 1) with ⟨c, m, g1, g2⟩ | ⟨T3, g1, g2⟩
      · exact .inl ⟨c, m, g1, g2, .inr (.inr ⟨_, by omega, rfl⟩)⟩
      · exact .inr ⟨T3, g1, Nat.le_trans hle g2, .inr (.inr ⟨_, by omega, rfl, by omega⟩)⟩
theorem leads_cons (S : St) (x : Way) (r : List Way) : leadsP S (x :: r) = match leadP S x with
    | .inl c => .inl (c, x.line)
    | .inr S' => leadsP S' r := rfl
theorem lead_put {S S' : St} {x : Way} (hl : leadP S x = .inr S') (hx : x.place + 4 ≤ S.prog.length) : S' = { S with prog := S'.prog } ∧ S'.prog.length = S.prog.length := by
  unfold leadP at hl
  split at hl
  · cases hl
  · split at hl
    · injection hl with hl
      subst hl
      refine ⟨rfl, ?_⟩
      dsimp only
      rw [List.length_append, List.length_append, enc_len, List.length_take, List.length_drop]; omega
    · cases hl
/-- the ways of the first: put in as if alone -/
theorem lead_first {A A2 S : St} {x : Way} (q : Bs) (hp : S.prog = A.prog ++ q) (hl : ∀ l v, A.labels l = some v → S.labels l = some v) (hx : x.place + 4 ≤ A.prog.length) (h : leadP A x = .inr A2) :
    leadP S x = .inr { S with prog := A2.prog ++ q } := by
  unfold leadP at h ⊢
  split at h
  · cases h
  · rename_i v hv
    rw [hl _ _ hv]
    dsimp only
    have e : ledI S x v = ledI A x v := by
      unfold ledI
      rw [hp, List.drop_append_of_le_length (by omega), List.take_append_of_le_length (by rw [List.length_drop]; omega)]
    split at h
    · rename_i hok
      injection h with h
      subst h
      rw [e, if_pos hok, hp, List.take_append_of_le_length (by omega), List.drop_append_of_le_length (by omega)]
      simp [List.append_assoc]
    · cases h
theorem leads_first (q : Bs) : ∀ (X : List Way) (A A2 S : St), S.prog = A.prog ++ q → (∀ l v, A.labels l = some v → S.labels l = some v) → (∀ x ∈ X, x.place + 4 ≤ A.prog.length) → leadsP A X = .inr A2 →
    leadsP S X = .inr { S with prog := A2.prog ++ q } ∧ A2.prog.length = A.prog.length
  | [], A, A2, S, hp, hl, hx, h => by
    injection h with h
    subst h
    refine ⟨?_, rfl⟩
    rw [← hp]; rfl
  | x :: X, A, A2, S, hp, hl, hx, h => by
    rw [leads_cons] at h ⊢
    cases h1 : leadP A x with
    | inl c => rw [h1] at h; cases h
    | inr A1 =>
      rw [h1] at h
      dsimp only at h
      have hxx := hx x (by simp)
      rw [lead_first q hp hl hxx h1]
      dsimp only
      obtain ⟨e1, e2⟩ := lead_put h1 hxx
      have hlab : A1.labels = A.labels := by rw [e1]
      obtain ⟨g1, g2⟩ := leads_first q X A1 A2 { S with prog := A1.prog ++ q } rfl (fun l v hv => hl l v (by rw [← hlab]; exact hv)) (fun y hy => by rw [e2]; exact hx y (by simp [hy])) h
      exact ⟨g1, by rw [g2, e2]⟩
/-- the ways of the second: put in as if alone, further on -/
theorem lead_second {T S : St} {x : Way} (k : Nat) (p : Bs) (hp : S.prog = p ++ T.prog) (hl : S.labels x.label = (T.labels x.label).map (fun v => v + (p.length : Int))) (hx : x.place + 4 ≤ T.prog.length) :
    leadP S (shW k p.length x) = match leadP T x with
      | .inl c => .inl c
      | .inr T2 => .inr { S with prog := p ++ T2.prog } := by
  unfold leadP
  rw [show (shW k p.length x).label = x.label from rfl, hl]
  cases hv : T.labels x.label with
  | none => rfl
  | some v =>
    dsimp only [Option.map]
    have e : ledI S (shW k p.length x) (v + (p.length : Int)) = ledI T x v := by
      unfold ledI shW
      dsimp only
      rw [hp, show x.place + p.length = p.length + x.place from by omega, List.drop_append, List.drop_eq_nil_of_le (by omega), Nat.add_sub_cancel_left, List.nil_append]
      congr 2
      omega
    rw [e]
    by_cases hok : okI (ledI T x v) = true
    · rw [if_pos hok, if_pos hok]
      unfold shW
      dsimp only
      rw [hp, show x.place + p.length = p.length + x.place from by omega, List.take_append, List.take_of_length_le (by omega), Nat.add_sub_cancel_left, show p.length + x.place + 4 = p.length + (x.place + 4) from by omega, List.drop_append, List.drop_eq_nil_of_le (by omega), Nat.add_sub_cancel_left, List.nil_append]
      simp [List.append_assoc]
    · rw [if_neg hok, if_neg hok]
theorem leads_second (k : Nat) (p : Bs) : ∀ (X : List Way) (T S : St), S.prog = p ++ T.prog → (∀ x ∈ X, S.labels x.label = (T.labels x.label).map (fun v => v + (p.length : Int))) → (∀ x ∈ X, x.place + 4 ≤ T.prog.length) →
    leadsP S (X.map (shW k p.length)) = match leadsP T X with
      | .inl c => .inl (c.1, c.2 + (k : Int))
      | .inr T2 => .inr { S with prog := p ++ T2.prog }
  | [], T, S, hp, hl, hx => by
    rw [List.map_nil, show leadsP T [] = .inr T from rfl, show leadsP S [] = .inr S from rfl]
    dsimp only
    rw [← hp]
  | x :: X, T, S, hp, hl, hx => by
    rw [List.map_cons, leads_cons, leads_cons, lead_second k p hp (hl x (by simp)) (hx x (by simp))]
    cases h1 : leadP T x with
    | inl c => rfl
    | inr T1 =>
      dsimp only
      obtain ⟨e1, e2⟩ := lead_put h1 (hx x (by simp))
      have hlab : T1.labels = T.labels := by rw [e1]
      rw [leads_second k p X T1 { S with prog := p ++ T1.prog } rfl (fun y hy => by dsimp only; rw [hlab]; exact hl y (by simp [hy])) (fun y hy => by rw [e2]; exact hx y (by simp [hy]))]
/-- no mistake of a way leaves its label out -/
theorem leads_found : ∀ (X : List Way) (T T2 : St), (∀ x ∈ X, x.place + 4 ≤ T.prog.length) → leadsP T X = .inr T2 → ∀ x ∈ X, T.labels x.label ≠ none
  | [], T, T2, hx, h, x, hm => by cases hm
  | y :: X, T, T2, hx, h, x, hm => by
    rw [leads_cons] at h
    cases h1 : leadP T y with
    | inl c => rw [h1] at h; cases h
    | inr T1 =>
      rw [h1] at h
      dsimp only at h
      obtain ⟨e1, e2⟩ := lead_put h1 (hx y (by simp))
      rcases List.mem_cons.1 hm with rfl | hm
      · intro e
        unfold leadP at h1
        rw [e] at h1
        cases h1
      · have := leads_found X T1 T2 (fun z hz => by rw [e2]; exact hx z (by simp [hz])) h x hm
        rwa [show T1.labels = T.labels by rw [e1]] at this
/-- TWO TEXTS, ONE BEHIND THE OTHER. -/
theorem asm_join (a b p q : Bs) (ha : asmP (linesB a) = .inr p) (hb : asmP (linesB b) = .inr q) :
    asmP (linesB (a ++ 10 :: b)) = .inr (p ++ q) ∨ (∃ n, 0 < n ∧ asmP (linesB (a ++ 10 :: b)) = .inl (93, n)) ∨ (∃ n, 0 < n ∧ asmP (linesB (a ++ 10 :: b)) = .inl (94, n) ∧ 4096 < p.length + q.length) := by
  unfold asmP at ha hb ⊢
  rw [adds_glue]
  cases h1 : addsP newSt 0 (linesB a) with
  | inl c => rw [h1] at ha; cases ha
  | inr A =>
    rw [h1] at ha
    dsimp only at ha ⊢
    cases h2 : leadsP A A.ways with
    | inl c => rw [h2] at ha; cases ha
    | inr A2 =>
      rw [h2] at ha
      injection ha with ha
      subst ha
      obtain ⟨gA, -⟩ := adds_good new_good h1
      obtain ⟨k, hk⟩ : ∃ k, k = (linesB a).length + (if freshB a = true then 1 else 0) := ⟨_, rfl⟩
      rw [Nat.zero_add, ← hk]
      have hs := sim_adds A k (linesB b) newSt A 0 (Behind.start A k)
      rw [Nat.zero_add] at hs
      rcases hs with ⟨c, m, g1, _⟩ | ⟨T2, g1, g2, g3⟩
      · rw [g1] at hb; cases hb
      · rw [g1] at hb
        dsimp only at hb
        cases h3 : leadsP T2 T2.ways with
        | inl c => rw [h3] at hb; cases hb
        | inr T3 =>
          rw [h3] at hb
          injection hb with hb
          subst hb
          obtain ⟨gT, -⟩ := adds_good new_good g1
          obtain ⟨f1, e1⟩ := leads_first T2.prog A.ways A A2 { A with prog := A.prog ++ T2.prog } rfl (fun l v h => h) (fun x hx => (gA.way x hx).1) h2
          have e3 : T3.prog.length = T2.prog.length := by
            have := leads_first [] T2.ways T2 T3 T2 (by simp) (fun l v h => h) (fun x hx => (gT.way x hx).1) h3
            exact this.2
          rcases g3 with ⟨S2, g3, hB⟩ | ⟨m', hm, g3, _⟩ | ⟨m', hm, g3, hlt⟩
          · rw [g3]
            dsimp only
            have k1 : leadsP S2 A.ways = .inr { S2 with prog := A2.prog ++ T2.prog } := (leads_first T2.prog A.ways A A2 S2 hB.prog (fun l v h => by rw [hB.labels]; unfold shL; rw [h]) (fun x hx => (gA.way x hx).1) h2).1
            have k2 := leads_second k A2.prog T2.ways T2 { S2 with prog := A2.prog ++ T2.prog } rfl (fun x hx => by
              dsimp only
              rw [hB.labels]
              unfold shL
              have hn := leads_found T2.ways T2 T3 (fun x hx => (gT.way x hx).1) h3 x hx
              rw [(hB.apart x.label).resolve_right hn, e1]) (fun x hx => (gT.way x hx).1)
            rw [h3] at k2
            have hadd : ∀ (X Y : List Way) (S S1 : St), leadsP S X = .inr S1 → leadsP S (X ++ Y) = leadsP S1 Y := by
              intro X
              induction X with
              | nil => intro Y S S1 h; injection h with h; subst h; rfl
              | cons x X ih =>
                intro Y S S1 h
                rw [List.cons_append, leads_cons]
                rw [leads_cons] at h
                cases hx : leadP S x with
                | inl c => rw [hx] at h; cases h
                | inr S' => rw [hx] at h; dsimp only at h ⊢; exact ih Y S' S1 h
            rw [hB.ways, ← e1, hadd _ _ _ _ k1, k2]
            exact .inl rfl
          · rw [g3]
            exact .inr (.inl ⟨m', hm, rfl⟩)
          · rw [g3]
            exact .inr (.inr ⟨m', hm, rfl, by rw [e1, e3]; exact hlt⟩)
/-- so many lines of nothing to do -/
def nopL : Bs := [110, 111, 112]
def nopsB (k : Nat) : Bs := (List.replicate k (nopL ++ [10])).flatten
theorem nop_lin : linS [0, 0, 0, 0] = nopL := by decide +kernel
theorem nops_lines (k : Nat) (t : Bs) : linesB (nopsB k ++ t) = List.replicate k nopL ++ linesB t := by
  have := lines_join (List.replicate k nopL) t (fun a ha => by rw [(List.mem_replicate.1 ha).2]; decide)
  rw [← this]
  congr 2
  unfold nopsB
  simp [List.flatMap]
def nopSt (k : Nat) : St := { newSt with prog := List.replicate (4 * k) 0 }
theorem nops_adds (k : Nat) (hk : k ≤ 900) : addsP newSt 0 (List.replicate k nopL) = .inr (nopSt k) := by
  have := adds_lin (List.replicate k [0, 0, 0, 0]) newSt 0 (fun q hq => by rw [(List.mem_replicate.1 hq).2]; rfl) (by simp [newSt]; omega)
  rw [List.map_replicate, nop_lin] at this
  rw [this]
  unfold nopSt newSt
  dsimp only
  rw [List.nil_append]
  congr 2
  rw [show ([0, 0, 0, 0] : Bs) = List.replicate 4 0 from rfl, List.flatten_replicate_replicate, Nat.mul_comm]
theorem leads_code : ∀ (X : List Way) (T : St) (c : Int × Int), leadsP T X = .inl c → c.1 = 93
  | [], T, c, h => by cases h
  | x :: X, T, c, h => by
    rw [leads_cons] at h
    cases h1 : leadP T x with
    | inl c1 =>
      rw [h1] at h
      injection h with h
      subst h
      unfold leadP at h1
      split at h1
      · injection h1 with h1; exact h1.symm
      · split at h1
        · cases h1
        · injection h1 with h1; exact h1.symm
    | inr T1 => rw [h1] at h; exact leads_code X T1 c h
/-- A TEXT BEHIND LINES OF NOTHING TO DO. -/
theorem asm_moves (k : Nat) (hk : k ≤ 900) (t : Bs) :
    (∃ m, 0 < m ∧ asmP (linesB (nopsB k ++ t)) = .inl (94, m)) ∨
    (∃ c m, (c = 94 → 0 < m) ∧ asmP (linesB t) = .inl (c, m) ∧ asmP (linesB (nopsB k ++ t)) = .inl (c, m + (k : Int))) ∨
    (∃ p, asmP (linesB t) = .inr p ∧ asmP (linesB (nopsB k ++ t)) = .inr (List.replicate (4 * k) 0 ++ p)) := by
  unfold asmP
  rw [nops_lines, adds_append, nops_adds k hk]
  dsimp only
  rw [List.length_replicate]
  have hz : (nopSt k).prog.length = 4 * k := by simp [nopSt]
  have hs := sim_adds (nopSt k) k (linesB t) newSt (nopSt k) 0 (Behind.start _ k)
  rcases hs with ⟨c, m, g1, gm, g2 | ⟨m', hm, g2, x, hx⟩ | ⟨m', hm, g2⟩⟩ | ⟨T2, g1, g0, ⟨S2, g2, hB⟩ | ⟨m', hm, g2, x, hx⟩ | ⟨m', hm, g2, _⟩⟩
  · rw [g1, g2]
    exact .inr (.inl ⟨c, m, fun _ => gm, rfl, rfl⟩)
  · exact absurd rfl hx
  · rw [g1, g2]
    exact .inl ⟨m', hm, rfl⟩
  · obtain ⟨gT, -⟩ := adds_good new_good g1
    rw [g1, g2]
    dsimp only
    have k2 := leads_second k (nopSt k).prog T2.ways T2 S2 hB.prog (fun x hx => by rw [hB.labels]; rfl) (fun x hx => (gT.way x hx).1)
    rw [hB.ways, show (nopSt k).ways = [] from rfl, List.nil_append, k2]
    cases h3 : leadsP T2 T2.ways with
    | inl c => exact .inr (.inl ⟨c.1, c.2, fun e => absurd (leads_code _ _ _ h3) (by rw [e]; decide), rfl, rfl⟩)
    | inr T3 => exact .inr (.inr ⟨T3.prog, rfl, rfl⟩)
  · exact absurd rfl hx
  · rw [g1, g2]
    exact .inl ⟨m', hm, rfl⟩
end Go.Proofs.YtmclcobklcjmnaaDoor
