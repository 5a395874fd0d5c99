/- What a write changes: at most a place for each byte; and it is found again where no two pages share a frame. No conditions. -/
import Derived.Test.YtnhfbeehoifddaaShr
import Derived.Test.YtnhfbeehoifddaaWds
import Derived.Deep.RegionHeld3
namespace Go.Proofs.Ytnhfbeehoifddaa
open Go.RowKit Go.Maps
set_option linter.unusedVariables false

/-- on how many of the first places do two lists differ? -/
def cnt (B B' : Bts) : Nat → Nat
  | 0 => 0
  | n + 1 => cnt B B' n + (if B'.getD n 0 = B.getD n 0 then 0 else 1)
theorem cnt_refl (B : Bts) : ∀ n, cnt B B n = 0
  | 0 => rfl
  | n + 1 => by unfold cnt; rw [cnt_refl B n, if_pos rfl]
theorem cnt_le (B B' : Bts) : ∀ n, cnt B B' n ≤ n
  | 0 => Nat.le_refl _
  | n + 1 => by unfold cnt; have := cnt_le B B' n; split <;> omega
theorem cnt_set (B B' : Bts) (p : Nat) (x : UInt8) : ∀ n, cnt B (B'.set p x) n ≤ cnt B B' n + (if p < n then 1 else 0)
  | 0 => by simp [cnt]
  | n + 1 => by
    have ih := cnt_set B B' p x n
    unfold cnt
    rw [getD_set]
    by_cases e : p = n
    · rw [if_neg (by omega)] at ih
      rw [if_pos (show p < n + 1 by omega)]
      have h1 : ∀ (c : Prop) [Decidable c], (if c then 0 else 1) ≤ 1 := fun c _ => by split <;> omega
      have h2 := h1 ((if p = n ∧ p < B'.length then x else B'.getD n 0) = B.getD n 0)
      omega
    · rw [if_neg (fun z : p = n ∧ p < B'.length => e z.1)]
      generalize (if B'.getD n 0 = B.getD n 0 then 0 else 1) = t
      by_cases h : p < n
      · rw [if_pos h] at ih
        rw [if_pos (show p < n + 1 by omega)]
        omega
      · rw [if_neg h] at ih
        rw [if_neg (show ¬ p < n + 1 by omega)]
        omega
theorem cnt_wr (B : Bts) (ps : List Pg) (n : Nat) : ∀ (s : Bts) (a : Int) (B' : Bts), cnt B (wr ps a s B') n ≤ cnt B B' n + s.length
  | [], _, _ => Nat.le_refl _
  | x :: s, a, B' => by
    have h1 := cnt_wr B ps n s (a + 1) (B'.set (pos ps a) x)
    have h2 := cnt_set B B' (pos ps a) x n
    unfold wr
    rw [List.length_cons]
    have : (if pos ps a < n then 1 else 0) ≤ 1 := by split <;> omega
    omega
/-- no two pages lie on one frame -/
def dist (ps : List Pg) : Prop := ∀ x, x < ps.length → ∀ y, y < x → 0 ≤ (ps.getD x (0, 0)).1 → (ps.getD x (0, 0)).1 ≠ (ps.getD y (0, 0)).1
theorem dist_ne {ps : List Pg} (h : dist ps) {x y : Nat} (hx : x < ps.length) (hy : y < ps.length) (hxy : x ≠ y) (fx : 0 ≤ (ps.getD x (0, 0)).1) (fy : 0 ≤ (ps.getD y (0, 0)).1) : (ps.getD x (0, 0)).1 ≠ (ps.getD y (0, 0)).1 := by
  rcases Nat.lt_or_ge y x with z | z
  · exact h x hx y z fx
  · exact fun e => h y hy x (by omega) fy e.symm
theorem pg_in {F : Nat} {ps : List Pg} (hc : chk F ps = 0) {R a : Int} (h : bad ps R a = 0) : 0 ≤ a ∧ (a / 256).toNat < ps.length ∧ 0 ≤ (pg ps a).1 ∧ (pg ps a).1 < F ∧ 0 ≤ (pg ps a).2 ∧ (pg ps a).2 ≤ 7 := by
  obtain ⟨h1, h2, h3⟩ := bad_zero h
  have hm := (chk_mem hc).2 _ (pg_mem h1)
  unfold okP at hm
  rw [if_neg h2] at hm
  unfold out at h1
  omega
theorem pos_inj {F : Nat} {ps : List Pg} (hc : chk F ps = 0) (hd : dist ps) {R a b : Int} (ha : bad ps R a = 0) (hb : bad ps R b = 0) (hab : a ≠ b) : pos ps a ≠ pos ps b := by
  have a1 := pg_in hc ha
  have b1 := pg_in hc hb
  intro e
  unfold pos at e
  have e1 : (pg ps a).1 = (pg ps b).1 := by omega
  by_cases z : (a / 256).toNat = (b / 256).toNat
  · omega
  · exact dist_ne hd a1.2.1 b1.2.1 z a1.2.2.1 b1.2.2.1 e1
theorem wr_keep (ps : List Pg) (p : Nat) : ∀ (s : Bts) (a : Int) (B : Bts), (∀ j : Nat, j < s.length → pos ps (a + j) ≠ p) → (wr ps a s B).getD p 0 = B.getD p 0
  | [], _, _, _ => rfl
  | x :: s, a, B, h => by
    unfold wr
    rw [wr_keep ps p s (a + 1) _ (fun j hj => by have := h (j + 1) (by simp; omega); rwa [show a + 1 + (j : Int) = a + ((j + 1 : Nat) : Int) by omega])]
    rw [getD_set, if_neg (fun z => h 0 (by simp) (by rw [show a + ((0 : Nat) : Int) = a by omega]; exact z.1))]
theorem there_bad {ps : List Pg} {R : Int} : ∀ (n : Nat) (a : Int), thereE ps R a n = 0 → ∀ j : Nat, j < n → bad ps R (a + j) = 0
  | 0, _, _, j, hj => absurd hj (Nat.not_lt_zero _)
  | n + 1, a, h, j, hj => by
    have h0 := good_bad (Nat.succ_pos n) h
    unfold thereE at h
    rw [if_pos h0] at h
    cases j with
    | zero => rwa [show a + ((0 : Nat) : Int) = a by omega]
    | succ j => have := there_bad n (a + 1) h j (by omega); rwa [show a + 1 + (j : Int) = a + ((j + 1 : Nat) : Int) by omega] at this
theorem wr_get {F : Nat} {ps : List Pg} (hc : chk F ps = 0) (hd : dist ps) : ∀ (s : Bts) (a : Int) (B : Bts) (i : Nat), B.length = 256 * F → thereE ps 2 a s.length = 0 → i < s.length → (wr ps a s B).getD (pos ps (a + i)) 0 = s.getD i 0
  | [], _, _, i, _, _, hi => absurd hi (Nat.not_lt_zero _)
  | x :: s, a, B, i, hB, h, hi => by
    have hall := there_bad _ _ h
    have h0 := hall 0 (by simp)
    rw [show a + ((0 : Nat) : Int) = a by omega] at h0
    have h' : thereE ps 2 (a + 1) s.length = 0 := by
      rw [List.length_cons] at h
      unfold thereE at h
      rwa [if_pos h0] at h
    unfold wr
    cases i with
    | zero =>
      rw [show a + ((0 : Nat) : Int) = a by omega, wr_keep, getD_set, if_pos ⟨rfl, by rw [hB]; exact (pos_lt hc h0).2.2⟩]
      · rfl
      · intro j hj
        have hj' := hall (j + 1) (by simp; omega)
        rw [show a + 1 + (j : Int) = a + ((j + 1 : Nat) : Int) by omega]
        exact pos_inj hc hd hj' h0 (by omega)
    | succ i =>
      have := wr_get hc hd s (a + 1) (B.set (pos ps a) x) i (by rw [List.length_set]; exact hB) h' (by simpa using hi)
      rw [show a + ((i + 1 : Nat) : Int) = a + 1 + (i : Int) by omega, this]
      rfl
theorem and1 (x : Int) : bits .and .i64 x 1 = x % 2 := by
  show IntKind.i64.wrap ((BitVec.ofInt 64 x &&& BitVec.ofInt 64 1).toNat : Int) = _
  rw [BitVec.toNat_and, toNat_ofInt64, toNat_ofInt64]
  have e : ((1 : Int) % 18446744073709551616).toNat = 2 ^ 1 - 1 := by decide
  rw [e, Nat.and_two_pow_sub_one_eq_mod, wrap_in (by omega)]
  omega
/-- one byte loaded, where it may be written -/
theorem load_one {F : Nat} {ps : List Pg} (hc : chk F ps = 0) {a : Int} (h : bad ps 2 a = 0) (B : Bts) :
    loadE F ps a 1 1 = (if (pg ps a).2 % 2 = 0 then 82 else 0) ∧ ((pg ps a).2 % 2 ≠ 0 → loadN F ps B a 1 1 = ((B.getD (pos ps a) 0).toNat : Int)) := by
  obtain ⟨h1, h2, h3⟩ := bad_zero h
  have hp := pg_in hc h
  have e : loadE F ps a 1 1 = (if (pg ps a).2 % 2 = 0 then 82 else 0) := by
    unfold loadE chkW
    rw [if_pos hc, if_pos (Or.inl rfl), if_pos rfl]
    unfold readE
    rw [if_pos hc, if_pos (by unfold sizeOk; omega)]
    show (if bad ps 1 a = 0 then (0 : Int) else bad ps 1 a) = _
    unfold bad hasR
    unfold out at h1
    rw [if_neg h1, if_neg h2]
    have e1 : (((pg ps a).2.toNat / (1 : Int).toNat % 2) == 1) = !decide ((pg ps a).2 % 2 = 0) := by
      rw [show ((1 : Int).toNat) = 1 from rfl, Nat.div_one, Bool.eq_iff_iff]
      simp
      omega
    rw [e1]
    by_cases z : (pg ps a).2 % 2 = 0
    · simp [z]
    · simp [z]
  refine ⟨e, fun z => ?_⟩
  have e0 : loadE F ps a 1 1 = 0 := by rw [e, if_neg z]
  unfold loadN
  rw [if_pos e0]
  have := (load_eq (n := 1) (.inl rfl) F ps B a 1).1
  unfold readS
  rw [show ((1 : Nat) : Int) = 1 from rfl] at this
  rw [if_pos (by rw [← this]; exact e0)]
  simp [rd, word]
theorem frame_get {F : Nat} {B : Bts} (hB : B.length = 256 * F) {i : Nat} (hi : i < F) : (frameB B i).length = 256 ∧ ∀ k, k < 256 → (frameB B i).getD k 0 = B.getD (256 * i + k) 0 := by
  unfold frameB
  refine ⟨by rw [List.length_take, List.length_drop]; omega, fun k hk => ?_⟩
  rw [List.getD_eq_getElem?_getD, List.getElem?_take, if_pos hk, List.getElem?_drop, ← List.getD_eq_getElem?_getD]
theorem ofL_get (L : Bts) (l : Nat) (h : l < (ofL L).size) : (ofL L)[l] = L.getD l 0 := by
  have h2 : l < L.length := by rw [ofL_size] at h; exact h
  rw [List.getD_eq_getElem?_getD, List.getElem?_eq_getElem h2]
  rfl
theorem byte_at {B : Bts} {S : ByteArray} {i l : Nat} (f : (frameB B i).length = 256 ∧ ∀ k, k < 256 → (frameB B i).getD k 0 = B.getD (256 * i + k) 0) (hS : S = ofL (frameB B i)) (hl : l < 256) (h : l < S.size) : S[l] = B.getD (256 * i + l) 0 := by
  subst hS
  rw [ofL_get]
  exact f.2 l hl
theorem cnt_ne {B B' : Bts} {n : Nat} (h : B'.getD n 0 ≠ B.getD n 0) : cnt B B' (n + 1) = cnt B B' n + 1 := by rw [cnt, if_neg h]
theorem cnt_eq {B B' : Bts} {n : Nat} (h : B'.getD n 0 = B.getD n 0) : cnt B B' (n + 1) = cnt B B' n := by rw [cnt, if_pos h]; rfl
end Go.Proofs.Ytnhfbeehoifddaa
