/- Bytes of frames seen through a table of pages, as lists and numbers. No conditions. -/
import Derived.RowKit
namespace Go.Proofs.Ytedhefidfepclaa
set_option linter.unusedVariables false

abbrev Bts := List UInt8
def lay (l : Bts) (o : Nat) (t : Bts) : Bts := l.take o ++ t ++ l.drop (o + t.length)
theorem lay_len {l : Bts} {o : Nat} {t : Bts} (h : o + t.length ≤ l.length) : (lay l o t).length = l.length := by simp [lay]; omega
theorem lay_get {l : Bts} {o : Nat} {t : Bts} (h : o + t.length ≤ l.length) (j : Nat) : (lay l o t)[j]? = if o ≤ j ∧ j < o + t.length then t[j - o]? else l[j]? := by
  unfold lay
  rw [List.append_assoc]
  by_cases a : j < o
  · rw [List.getElem?_append_left (by simp; omega), if_neg (by omega), List.getElem?_take, if_pos a]
  · rw [List.getElem?_append_right (by simp; omega)]
    have eo : (List.take o l).length = o := by simp; omega
    rw [eo]
    by_cases b : j < o + t.length
    · rw [if_pos (by omega), List.getElem?_append_left (by omega)]
    · rw [if_neg (by omega), List.getElem?_append_right (by omega), List.getElem?_drop]
      congr 1; omega

abbrev Pg := Int × Int
/-- may a page be? -/
def okP (F : Nat) (p : Pg) : Prop := if p.1 = -1 then p.2 = 0 else 0 ≤ p.1 ∧ p.1 < F ∧ 0 ≤ p.2 ∧ p.2 ≤ 7
instance (F : Nat) (p : Pg) : Decidable (okP F p) := by unfold okP; infer_instance
def chk (F : Nat) (ps : List Pg) : Int := if ps.length ≤ 16 ∧ ∀ p ∈ ps, okP F p then 0 else 84
/-- has it the right? -/
def hasR (r R : Int) : Bool := r.toNat / R.toNat % 2 == 1
def pg (ps : List Pg) (a : Int) : Pg := ps.getD (a / 256).toNat (0, 0)
/-- what is wrong with a byte -/
def bad (ps : List Pg) (R a : Int) : Int := if a < 0 ∨ 256 * (ps.length : Int) ≤ a then 81 else if (pg ps a).1 = -1 then 81 else if hasR (pg ps a).2 R then 0 else 82
def pos (ps : List Pg) (a : Int) : Nat := 256 * (pg ps a).1.toNat + (a % 256).toNat
def thereE (ps : List Pg) (R : Int) : Int → Nat → Int
  | _, 0 => 0
  | a, n + 1 => if bad ps R a = 0 then thereE ps R (a + 1) n else bad ps R a
def rd (ps : List Pg) (B : Bts) : Int → Nat → Bts
  | _, 0 => []
  | a, n + 1 => B.getD (pos ps a) 0 :: rd ps B (a + 1) n
def wr (ps : List Pg) : Int → Bts → Bts → Bts
  | _, [], B => B
  | a, x :: s, B => wr ps (a + 1) s (B.set (pos ps a) x)

/-- a piece: the page, from and to -/
structure Pc where
  f : Int
  r : Int
  a : Nat
  b : Nat
def ext (at' : Int) (n : Nat) : Nat := min n (256 - (at' % 256).toNat)
theorem ext_pos {at' : Int} {n : Nat} (h : 0 < n) : 0 < ext at' n ∧ ext at' n ≤ n ∧ (at' % 256).toNat + ext at' n ≤ 256 := by unfold ext; omega
def cur (ps : List Pg) (at' : Int) (n : Nat) : Pc :=
  if at' < 0 ∨ 256 * (ps.length : Int) ≤ at' then ⟨-1, 0, 0, 0⟩ else ⟨(pg ps at').1, (pg ps at').2, (at' % 256).toNat, (at' % 256).toNat + ext at' n⟩
def out (ps : List Pg) (at' : Int) : Prop := at' < 0 ∨ 256 * (ps.length : Int) ≤ at'
/-- from at0 on, of n0 bytes, the pieces pre have come, and one is at at', with n to come -/
inductive Gone (ps : List Pg) (at0 : Int) (n0 : Nat) : List Pc → Int → Nat → Prop
  | start : Gone ps at0 n0 [] at0 n0
  | step {pre : List Pc} {at' : Int} {n : Nat} (h : Gone ps at0 n0 pre at' n) (hn : 0 < n) (hi : ¬ out ps at') : Gone ps at0 n0 (pre ++ [cur ps at' n]) (at' + ext at' n) (n - ext at' n)
/-- all have come -/
def AllP (ps : List Pg) (at0 : Int) (n0 : Nat) (ys : List Pc) : Prop :=
  ∃ pre at' n, Gone ps at0 n0 pre at' n ∧ ((n = 0 ∧ ys = pre) ∨ (0 < n ∧ out ps at' ∧ ys = pre ++ [cur ps at' n]))
/-- some have come -/
def SomeP (ps : List Pg) (at0 : Int) (n0 : Nat) (ys : List Pc) : Prop :=
  ∃ pre at' n, Gone ps at0 n0 pre at' n ∧ 0 < n ∧ ys = pre ++ [cur ps at' n]

theorem Gone.len {ps : List Pg} {at0 : Int} {n0 : Nat} {pre : List Pc} {at' : Int} {n : Nat} (h : Gone ps at0 n0 pre at' n) : pre.length + n ≤ n0 := by
  induction h with
  | start => simp
  | step h hn hi ih => have := ext_pos (at' := by assumption) hn; simp; omega
theorem Gone.bound {ps : List Pg} {at0 : Int} {n0 : Nat} {pre : List Pc} {at' : Int} {n : Nat} (h : Gone ps at0 n0 pre at' n) : at' = at0 ∨ (0 ≤ at' ∧ at' ≤ 256 * (ps.length : Int)) := by
  induction h with
  | start => exact .inl rfl
  | step h hn hi ih =>
    rename_i pre at' n
    right
    have := ext_pos (at' := at') hn
    unfold out at hi
    omega

def errP (R : Int) (x : Pc) : Int := if x.f = -1 then 81 else if hasR x.r R then 0 else 82
theorem errP_cur (ps : List Pg) (R at' : Int) (n : Nat) : errP R (cur ps at' n) = bad ps R at' := by
  unfold errP cur bad
  split
  · simp
  · rfl
theorem bad_same {ps : List Pg} {R at' : Int} {i n : Nat} (hi : ¬ out ps at') (h : i < ext at' n) : bad ps R (at' + i) = bad ps R at' ∧ pg ps (at' + i) = pg ps at' := by
  unfold out at hi
  have e : (at' + i) / 256 = at' / 256 := by unfold ext at h; omega
  have ep : pg ps (at' + i) = pg ps at' := by unfold pg; rw [e]
  refine ⟨?_, ep⟩
  unfold bad
  rw [ep]
  have : (at' + (i : Int) < 0 ∨ 256 * (ps.length : Int) ≤ at' + i) ↔ (at' < 0 ∨ 256 * (ps.length : Int) ≤ at') := by unfold ext at h; omega
  simp only [this]
theorem thereE_add (ps : List Pg) (R : Int) : ∀ (k m : Nat) (a : Int), (∀ i, i < k → bad ps R (a + (i : Nat)) = 0) → thereE ps R a (k + m) = thereE ps R (a + k) m
  | 0, m, a, _ => by simp
  | k + 1, m, a, h => by
    have h0 := h 0 (by omega)
    rw [show a + ((0 : Nat) : Int) = a by omega] at h0
    rw [show k + 1 + m = (k + m) + 1 by omega]
    show (if bad ps R a = 0 then thereE ps R (a + 1) (k + m) else bad ps R a) = _
    rw [if_pos h0, thereE_add ps R k m (a + 1) (fun i hi => by have := h (i + 1) (by omega); rwa [show a + 1 + ((i : Nat) : Int) = a + ((i + 1 : Nat) : Int) by omega])]
    congr 1; omega
theorem thereE_hd {ps : List Pg} {R a : Int} {n : Nat} (hn : 0 < n) (h : bad ps R a ≠ 0) : thereE ps R a n = bad ps R a := by
  obtain ⟨m, rfl⟩ : ∃ m, n = m + 1 := ⟨n - 1, by omega⟩
  unfold thereE
  rw [if_neg h]
theorem thereE_step {ps : List Pg} {R at' : Int} {n : Nat} (hn : 0 < n) (hi : ¬ out ps at') (h : bad ps R at' = 0) : thereE ps R at' n = thereE ps R (at' + ext at' n) (n - ext at' n) := by
  have he := ext_pos (at' := at') hn
  have := thereE_add ps R (ext at' n) (n - ext at' n) at' (fun i hi' => by rw [(bad_same hi hi').1]; exact h)
  rwa [show ext at' n + (n - ext at' n) = n by omega] at this
theorem Gone.there {ps : List Pg} {at0 : Int} {n0 : Nat} {R : Int} {pre : List Pc} {at' : Int} {n : Nat} (h : Gone ps at0 n0 pre at' n) (hg : ∀ x ∈ pre, errP R x = 0) : thereE ps R at0 n0 = thereE ps R at' n := by
  induction h with
  | start => rfl
  | step h hn hi ih =>
    rw [ih (fun x hx => hg x (List.mem_append_left _ hx)), thereE_step hn hi]
    have := hg _ (List.mem_append_right _ List.mem_cons_self)
    rwa [errP_cur] at this
theorem Gone.good {ps : List Pg} {at0 : Int} {n0 : Nat} {R : Int} {pre : List Pc} {at' : Int} {n : Nat} (h : Gone ps at0 n0 pre at' n) (h0 : thereE ps R at0 n0 = 0) : thereE ps R at' n = 0 := by
  induction h with
  | start => exact h0
  | step h hn hi ih =>
    rename_i pre at' n
    by_cases hb : bad ps R at' = 0
    · rw [← thereE_step hn hi hb]; exact ih
    · rw [thereE_hd hn hb] at ih; exact absurd ih hb
theorem good_bad {ps : List Pg} {R a : Int} {n : Nat} (hn : 0 < n) (h : thereE ps R a n = 0) : bad ps R a = 0 := by
  by_cases hb : bad ps R a = 0
  · exact hb
  · rw [thereE_hd hn hb] at h; exact absurd h hb
theorem bad_zero {ps : List Pg} {R a : Int} (h : bad ps R a = 0) : ¬ out ps a ∧ (pg ps a).1 ≠ -1 ∧ hasR (pg ps a).2 R = true := by
  unfold bad at h
  unfold out
  split at h
  · simp at h
  · split at h
    · simp at h
    · split at h
      · refine ⟨by assumption, by assumption, by assumption⟩
      · simp at h
theorem pg_mem {ps : List Pg} {a : Int} (h : ¬ out ps a) : pg ps a ∈ ps := by
  unfold out at h
  have hlt : (a / 256).toNat < ps.length := by omega
  unfold pg
  rw [List.getD_eq_getElem?_getD, List.getElem?_eq_getElem hlt]
  exact List.getElem_mem hlt
theorem chk_mem {F : Nat} {ps : List Pg} (h : chk F ps = 0) : ps.length ≤ 16 ∧ ∀ p ∈ ps, okP F p := by
  unfold chk at h
  split at h
  · assumption
  · simp at h
theorem chk_range {F : Nat} {ps : List Pg} (h : chk F ps = 0) {p : Pg} (hp : p ∈ ps) : -1 ≤ p.1 ∧ p.1 < max F 1 ∧ 0 ≤ p.2 ∧ p.2 ≤ 7 := by
  have := (chk_mem h).2 p hp
  unfold okP at this
  split at this <;> omega
/-- a good byte lies in a frame -/
theorem pos_lt {F : Nat} {ps : List Pg} {R a : Int} (hc : chk F ps = 0) (h : bad ps R a = 0) : 0 ≤ (pg ps a).1 ∧ (pg ps a).1 < F ∧ pos ps a < 256 * F := by
  obtain ⟨h1, h2, h3⟩ := bad_zero h
  have h4 := (chk_mem hc).2 _ (pg_mem h1)
  unfold okP at h4
  rw [if_neg h2] at h4
  refine ⟨h4.1, h4.2.1, ?_⟩
  unfold pos
  omega
/-! ### reading -/
def seg (B : Bts) (x : Pc) : Bts := (B.drop (256 * x.f.toNat + x.a)).take (x.b - x.a)
theorem rd_len (ps : List Pg) (B : Bts) : ∀ (n : Nat) (a : Int), (rd ps B a n).length = n
  | 0, _ => rfl
  | n + 1, a => by simp [rd, rd_len ps B n]
theorem rd_get (ps : List Pg) (B : Bts) : ∀ (n : Nat) (a : Int) (i : Nat), i < n → (rd ps B a n)[i]? = some (B.getD (pos ps (a + i)) 0)
  | 0, _, i, h => absurd h (by omega)
  | n + 1, a, 0, h => by simp [rd]
  | n + 1, a, i + 1, h => by
    have := rd_get ps B n (a + 1) i (by omega)
    unfold rd
    rw [List.getElem?_cons_succ, this]
    congr 3; omega
theorem rd_add (ps : List Pg) (B : Bts) : ∀ (k m : Nat) (a : Int), rd ps B a (k + m) = rd ps B a k ++ rd ps B (a + k) m
  | 0, m, a => by simp [rd]
  | k + 1, m, a => by
    rw [show k + 1 + m = (k + m) + 1 by omega]
    unfold rd
    rw [rd_add ps B k m (a + 1), show a + 1 + (k : Int) = a + ((k + 1 : Nat) : Int) by omega]
    cases m <;> simp [rd]
theorem pos_same {ps : List Pg} {at' : Int} {i n : Nat} (hi : ¬ out ps at') (h : i < ext at' n) : pos ps (at' + i) = pos ps at' + i := by
  unfold pos
  rw [(bad_same (R := 0) hi h).2]
  unfold out at hi
  unfold ext at h
  omega
theorem rd_seg {F : Nat} {ps : List Pg} {B : Bts} {R at' : Int} {n : Nat} (hB : B.length = 256 * F) (hn : 0 < n) (hc : chk F ps = 0) (h : bad ps R at' = 0) : rd ps B at' (ext at' n) = seg B (cur ps at' n) := by
  have hp := pos_lt hc h
  have hi := (bad_zero h).1
  have he := ext_pos (at' := at') hn
  have ec : cur ps at' n = ⟨(pg ps at').1, (pg ps at').2, (at' % 256).toNat, (at' % 256).toNat + ext at' n⟩ := if_neg hi
  rw [ec]
  apply List.ext_getElem?
  intro i
  unfold seg
  simp only [Nat.add_sub_cancel_left]
  rw [List.getElem?_take]
  split
  · rename_i hlt
    rw [rd_get _ _ _ _ _ hlt, pos_same hi hlt, List.getElem?_drop]
    have : pos ps at' + i < B.length := by unfold pos at hp ⊢; omega
    rw [List.getD_eq_getElem?_getD, show 256 * (pg ps at').1.toNat + (at' % 256).toNat + i = pos ps at' + i from rfl, List.getElem?_eq_getElem this]
    rfl
  · rw [List.getElem?_eq_none (by rw [rd_len]; omega)]
theorem Gone.read {F : Nat} {ps : List Pg} {B : Bts} {R : Int} {at0 : Int} {n0 : Nat} {pre : List Pc} {at' : Int} {n : Nat} (h : Gone ps at0 n0 pre at' n) (hB : B.length = 256 * F) (hc : chk F ps = 0) (h0 : thereE ps R at0 n0 = 0) :
    rd ps B at0 n0 = pre.flatMap (seg B) ++ rd ps B at' n := by
  induction h with
  | start => rfl
  | step h hn hi ih =>
    rename_i pre at' n
    have hb := good_bad hn (h.good h0)
    have he := ext_pos (at' := at') hn
    rw [ih, List.flatMap_append, List.append_assoc]
    congr 1
    have e : rd ps B at' n = rd ps B at' (ext at' n) ++ rd ps B (at' + ext at' n) (n - ext at' n) := by
      rw [← rd_add]; congr 1; omega
    rw [e, rd_seg hB hn hc hb]
    simp
theorem AllP.read {F : Nat} {ps : List Pg} {B : Bts} {R : Int} {at0 : Int} {n0 : Nat} {ys : List Pc} (h : AllP ps at0 n0 ys) (hB : B.length = 256 * F) (hc : chk F ps = 0) (h0 : thereE ps R at0 n0 = 0) : ys.flatMap (seg B) = rd ps B at0 n0 := by
  obtain ⟨pre, at', n, hg, ⟨rfl, rfl⟩ | ⟨hn, ho, rfl⟩⟩ := h
  · rw [hg.read hB hc h0]; simp [rd]
  · exact absurd ho (bad_zero (good_bad hn (hg.good h0))).1
/-! ### writing -/
theorem wr_len (ps : List Pg) : ∀ (s : Bts) (a : Int) (B : Bts), (wr ps a s B).length = B.length
  | [], _, _ => rfl
  | x :: s, a, B => by simp [wr, wr_len ps s]
theorem wr_append (ps : List Pg) : ∀ (s t : Bts) (a : Int) (B : Bts), wr ps a (s ++ t) B = wr ps (a + s.length) t (wr ps a s B)
  | [], t, a, B => by simp [wr]
  | x :: s, t, a, B => by
    rw [List.cons_append]
    unfold wr
    rw [wr_append ps s t (a + 1), List.length_cons, show a + 1 + (s.length : Int) = a + ((s.length + 1 : Nat) : Int) by omega]
    cases t <;> simp [wr]
theorem wr_lay {ps : List Pg} {at' : Int} {n : Nat} (hi : ¬ out ps at') : ∀ (s : Bts) (i : Nat) (B : Bts), i + s.length ≤ ext at' n → pos ps at' + i + s.length ≤ B.length → wr ps (at' + i) s B = lay B (pos ps at' + i) s
  | [], i, B, _, _ => by simp [wr, lay]
  | x :: s, i, B, h, hl => by
    simp only [List.length_cons] at h hl
    have ih := wr_lay (n := n) hi s (i + 1) (B.set (pos ps (at' + i)) x) (by omega) (by rw [List.length_set]; omega)
    unfold wr
    rw [show at' + (i : Int) + 1 = at' + ((i + 1 : Nat) : Int) by omega, ih, pos_same (n := n) hi (show i < ext at' n by omega)]
    apply List.ext_getElem?
    intro j
    rw [lay_get (by rw [List.length_set]; omega), lay_get (by rw [List.length_cons]; omega), List.getElem?_set, List.length_cons]
    by_cases e : pos ps at' + i = j
    · subst e
      rw [if_neg (by omega), if_pos rfl, if_pos (by omega), if_pos (by omega), Nat.sub_self]
      rfl
    · rw [if_neg e]
      by_cases e2 : pos ps at' + (i + 1) ≤ j ∧ j < pos ps at' + (i + 1) + s.length
      · rw [if_pos e2, if_pos (by omega), show j - (pos ps at' + i) = (j - (pos ps at' + (i + 1))) + 1 by omega, List.getElem?_cons_succ]
      · rw [if_neg e2, if_neg (by omega)]
/-- one piece is laid -/
def put1 (x : Pc) (q : Bts × Bts) : Bts × Bts := (lay q.1 (256 * x.f.toNat + x.a) (q.2.take (x.b - x.a)), q.2.drop (x.b - x.a))
def putL (xs : List Pc) (q : Bts × Bts) : Bts × Bts := xs.foldl (fun q x => put1 x q) q
theorem putL_snoc (xs : List Pc) (x : Pc) (q : Bts × Bts) : putL (xs ++ [x]) q = put1 x (putL xs q) := by simp [putL]
theorem Gone.write {F : Nat} {ps : List Pg} {R : Int} {at0 : Int} {s : Bts} {B : Bts} {pre : List Pc} {at' : Int} {n : Nat} (h : Gone ps at0 s.length pre at' n) (hB : B.length = 256 * F) (hc : chk F ps = 0) (h0 : thereE ps R at0 s.length = 0) :
    wr ps at' (putL pre (B, s)).2 (putL pre (B, s)).1 = wr ps at0 s B ∧ (putL pre (B, s)).2.length = n ∧ (putL pre (B, s)).1.length = 256 * F := by
  induction h with
  | start => exact ⟨rfl, rfl, hB⟩
  | step h hn hi ih =>
    rename_i pre at' n
    obtain ⟨i1, i2, i3⟩ := ih
    have hb := good_bad hn (h.good h0)
    have hp := pos_lt hc hb
    have he := ext_pos (at' := at') hn
    rw [putL_snoc]
    generalize putL pre (B, s) = q at *
    have ec : cur ps at' n = ⟨(pg ps at').1, (pg ps at').2, (at' % 256).toNat, (at' % 256).toNat + ext at' n⟩ := if_neg hi
    have ea : 256 * (cur ps at' n).f.toNat + (cur ps at' n).a = pos ps at' := by rw [ec]; rfl
    have eb : (cur ps at' n).b - (cur ps at' n).a = ext at' n := by rw [ec]; simp
    unfold put1
    rw [ea, eb]
    have hpl : pos ps at' + ext at' n ≤ 256 * F := by unfold pos at *; omega
    have e1 : (q.2.take (ext at' n)).length = ext at' n := by rw [List.length_take]; omega
    refine ⟨?_, by simp [i2], by rw [lay_len (by rw [e1]; omega)]; exact i3⟩
    rw [← i1]
    have ew := wr_lay (ps := ps) (n := n) hi (q.2.take (ext at' n)) 0 q.1 (by omega) (by omega)
    rw [show at' + ((0 : Nat) : Int) = at' by omega, Nat.add_zero] at ew
    have ea2 := wr_append ps (q.2.take (ext at' n)) (q.2.drop (ext at' n)) at' q.1
    rw [List.take_append_drop, e1, ew] at ea2
    exact ea2.symm
theorem AllP.write {F : Nat} {ps : List Pg} {R : Int} {at0 : Int} {s : Bts} {B : Bts} {ys : List Pc} (h : AllP ps at0 s.length ys) (hB : B.length = 256 * F) (hc : chk F ps = 0) (h0 : thereE ps R at0 s.length = 0) : (putL ys (B, s)).1 = wr ps at0 s B := by
  obtain ⟨pre, at', n, hg, ⟨rfl, rfl⟩ | ⟨hn, ho, rfl⟩⟩ := h
  · obtain ⟨e1, e2, _⟩ := hg.write hB hc h0
    rw [← e1, List.length_eq_zero_iff.1 e2]; rfl
  · exact absurd ho (bad_zero (good_bad hn (hg.good h0))).1
end Go.Proofs.Ytedhefidfepclaa
