/- What is copied into a partition's memory and what is seen of it, as lists. No conditions. -/
import Derived.Test.YtedhefidfepclaaSpi
import Derived.Test.YtedhefidfepclaaSpd
import Derived.Test.YtedhefidfepclaaSph
namespace Go.Proofs.Ytedhefidfepclaa
set_option linter.unusedVariables false
set_option linter.unusedSimpArgs false

/-- each page has the frame of its own number, and may be read -/
def Frj (ps : List Pg) : Prop := ∀ j, j < ps.length → (ps.getD j (0, 0)).1 = (j : Int) ∧ ((ps.getD j (0, 0)).2 = 3 ∨ (ps.getD j (0, 0)).2 = 5)
theorem frj_pg0 (F : Nat) : Frj (pg0 F) := fun j hj => by
  rw [pg0_len] at hj
  rw [pg0_get _ _ hj]
  exact ⟨rfl, .inl rfl⟩
theorem pg_set (ps : List Pg) (i j : Nat) (v : Pg) (hi : i < ps.length) : (ps.set i v).getD j (0, 0) = if i = j then v else ps.getD j (0, 0) := by
  rw [List.getD_eq_getElem?_getD, List.getD_eq_getElem?_getD, List.getElem?_set]
  split
  · rfl
  · rfl
theorem frj_ldP {ps : List Pg} (h : Frj ps) (x : Nat) (t : Bts) : ∀ k, x + k ≤ ps.length → Frj (ldP ps x t k)
  | 0, _ => h
  | k + 1, hk => by
    have ih := frj_ldP h x t k (by omega)
    intro j hj
    rw [ldP, List.length_set] at hj
    rw [ldP, pg_set _ _ _ _ (by rw [ldP_len]; omega)]
    split
    · rename_i e
      subst e
      refine ⟨(h (x + k) (by omega)).1, ?_⟩
      show (if (pcP t k).length = 0 then (3 : Int) else 5) = 3 ∨ (if (pcP t k).length = 0 then (3 : Int) else 5) = 5
      split
      · exact .inl rfl
      · exact .inr rfl
    · exact ih j hj
theorem sldP_len (ns : List Nat) (ps : List Pg) (k : Int) (t : Bts) : (sldP ns ps k t).length = ps.length := by
  unfold sldP; split
  · exact ldP_len _ _ _ _
  · rfl
theorem frj_sldP {ns : List Nat} {ps : List Pg} (h : Frj ps) (hs : ps.length = ns.sum) (k : Int) (t : Bts) : Frj (sldP ns ps k t) := by
  unfold sldP; split
  · rename_i e
    refine frj_ldP h _ _ _ ?_
    have hk : isP ns k := by
      unfold sldE at e
      split at e
      · assumption
      · exact absurd e (by decide)
    obtain ⟨h0, h1⟩ := hk
    have hk' : k.toNat < ns.length := by omega
    have := bnd_succ ns k.toNat hk'
    have h2 := bnd_le ns (k.toNat + 1)
    rw [List.getD_eq_getElem?_getD, List.getElem?_eq_getElem hk']
    show bnd ns k.toNat + ns[k.toNat] ≤ _
    omega
  · exact h
/-- a partition's table -/
theorem tab_frj {ns : List Nat} {ps : List Pg} (h : Frj ps) (hs : ps.length = ns.sum) (i : Nat) (hi : i < ns.length) (j : Nat) (hj : j < ns[i]) : ((tabP ns ps i).getD j (0, 0)).1 = ((bnd ns i + j : Nat) : Int) ∧ (((tabP ns ps i).getD j (0, 0)).2 = 3 ∨ ((tabP ns ps i).getD j (0, 0)).2 = 5) := by
  have h1 := bnd_succ ns i hi
  have h2 := bnd_le ns (i + 1)
  rw [tabP_get hs i hi j hj]
  exact h _ (by omega)
/-- a table whose pages lie one behind the other from x on -/
def Row (tp : List Pg) (x : Nat) : Prop := ∀ j, j < tp.length → (tp.getD j (0, 0)).1 = ((x + j : Nat) : Int) ∧ ((tp.getD j (0, 0)).2 = 3 ∨ (tp.getD j (0, 0)).2 = 5)
theorem tab_row {ns : List Nat} {ps : List Pg} (h : Frj ps) (hs : ps.length = ns.sum) (i : Nat) (hi : i < ns.length) : Row (tabP ns ps i) (bnd ns i) := fun j hj => tab_frj h hs i hi j (by rw [tabP_len hs i hi] at hj; exact hj)
theorem row_pos {tp : List Pg} {x : Nat} (h : Row tp x) (a : Nat) (ha : a < 256 * tp.length) : pos tp (a : Int) = 256 * x + a := by
  have hd : ((a : Int) / 256).toNat = a / 256 := by omega
  have hm : ((a : Int) % 256).toNat = a % 256 := by omega
  have := (h (a / 256) (by omega)).1
  unfold pos pg
  rw [hd, hm, this]
  omega
theorem row_bad {tp : List Pg} {x : Nat} (h : Row tp x) {R a : Int} (hb : bad tp R a = 0) : 0 ≤ a ∧ a < 256 * (tp.length : Int) ∧ bad tp 1 a = 0 := by
  unfold bad at hb
  by_cases c : a < 0 ∨ 256 * (tp.length : Int) ≤ a
  · rw [if_pos c] at hb; exact absurd hb (by decide)
  · refine ⟨by omega, by omega, ?_⟩
    obtain ⟨h1, h2⟩ := h (a / 256).toNat (by omega)
    unfold bad
    rw [if_neg c]
    unfold pg
    rw [h1, if_neg (by omega)]
    rcases h2 with e | e <;> rw [e] <;> rfl
theorem row_there {tp : List Pg} {x : Nat} (h : Row tp x) (R : Int) : ∀ (n : Nat) (a : Int), thereE tp R a n = 0 → thereE tp 1 a n = 0 ∧ (n ≠ 0 → 0 ≤ a ∧ a + n ≤ 256 * (tp.length : Int))
  | 0, _, _ => ⟨rfl, fun h => absurd rfl h⟩
  | n + 1, a, e => by
    unfold thereE at e
    by_cases c : bad tp R a = 0
    · rw [if_pos c] at e
      obtain ⟨b1, b2, b3⟩ := row_bad h c
      obtain ⟨i1, i2⟩ := row_there h R n (a + 1) e
      refine ⟨by unfold thereE; rw [if_pos b3]; exact i1, fun _ => ⟨b1, ?_⟩⟩
      by_cases c0 : n = 0
      · subst c0; omega
      · have := i2 c0; omega
    · rw [if_neg c] at e; exact absurd e c
theorem lay_cons (B : Bts) (p : Nat) (y : UInt8) (s : Bts) (h : p + (s.length + 1) ≤ B.length) : lay (B.set p y) (p + 1) s = lay B p (y :: s) := by
  apply List.ext_getElem?
  intro j
  rw [lay_get (by rw [List.length_set]; omega), lay_get (by rw [List.length_cons]; omega), List.length_cons, List.getElem?_set]
  by_cases c : p + 1 ≤ j ∧ j < p + 1 + s.length
  · rw [if_pos c, if_pos (by omega), show j - p = (j - (p + 1)) + 1 by omega]; rfl
  · rw [if_neg c]
    by_cases e : p = j
    · subst e
      rw [if_pos rfl, if_pos (by omega), if_pos (by omega), Nat.sub_self]; rfl
    · rw [if_neg e, if_neg (by omega)]
theorem row_wr {tp : List Pg} {x : Nat} (h : Row tp x) : ∀ (s : Bts) (a : Nat) (B : Bts), a + s.length ≤ 256 * tp.length → 256 * (x + tp.length) ≤ B.length → wr tp (a : Int) s B = lay B (256 * x + a) s
  | [], a, B, _, _ => by simp [wr, lay]
  | y :: s, a, B, h1, h2 => by
    rw [List.length_cons] at h1
    rw [wr, row_pos h a (by omega), show ((a : Int) + 1) = ((a + 1 : Nat) : Int) by omega, row_wr h s (a + 1) _ (by omega) (by rw [List.length_set]; omega), show 256 * x + (a + 1) = 256 * x + a + 1 by omega]
    exact lay_cons B _ y s (by omega)
theorem row_rd {tp : List Pg} {x : Nat} (h : Row tp x) (B : Bts) : ∀ (n a : Nat), a + n ≤ 256 * tp.length → 256 * (x + tp.length) ≤ B.length → rd tp B (a : Int) n = (B.drop (256 * x + a)).take n
  | 0, a, _, _ => by simp [rd]
  | n + 1, a, h1, h2 => by
    rw [rd, row_pos h a (by omega), show ((a : Int) + 1) = ((a + 1 : Nat) : Int) by omega, row_rd h B n (a + 1) (by omega) h2]
    have hl : 256 * x + a < B.length := by omega
    rw [List.getD_eq_getElem?_getD, List.getElem?_eq_getElem hl, List.drop_eq_getElem_cons hl, List.take_succ_cons]
    rfl
theorem row_cat {tp : List Pg} {x F : Nat} (h : Row tp x) (B : Bts) (hF : x + tp.length ≤ F) (hB : B.length = 256 * F) : ∀ k, k ≤ tp.length → catP F B tp k = (B.drop (256 * x)).take (256 * k)
  | 0, _ => by simp [catP]
  | k + 1, hk => by
    have ih := row_cat h B hF hB k (by omega)
    unfold catP at ih ⊢
    obtain ⟨h1, _⟩ := h k (by omega)
    rw [List.getD_eq_getElem?_getD, List.getElem?_eq_getElem (by omega)] at h1
    have h1 : (tp[k]'(by omega)).1 = ((x + k : Nat) : Int) := h1
    rw [List.take_succ_eq_append_getElem (by omega), List.map_append, List.flatten_append, ih]
    simp only [List.map_cons, List.map_nil, List.flatten_cons, List.flatten_nil, List.append_nil]
    unfold frP
    rw [h1, if_pos (by unfold isF; omega)]
    unfold frameB
    rw [show ((x + k : Nat) : Int).toNat = x + k from rfl, show 256 * (k + 1) = 256 * k + 256 by omega, List.take_add, List.drop_drop, show 256 * (x + k) = 256 * x + 256 * k by omega]
/-- what is seen before and after -/
theorem row_law {tp : List Pg} {x F : Nat} (h : Row tp x) (B : Bts) (hF : x + tp.length ≤ F) (hB : B.length = 256 * F) (a : Nat) (s : Bts) (hs : a + s.length ≤ 256 * tp.length) :
    catP F (lay B (256 * x + a) s) tp tp.length = lay (catP F B tp tp.length) a s ∧ ((lay B (256 * x + a) s).drop (256 * x + a)).take s.length = s ∧ (catP F B tp tp.length).length = 256 * tp.length := by
  have hl := lay_len (l := B) (o := 256 * x + a) (t := s) (by omega)
  rw [row_cat h _ hF (by rw [hl]; exact hB) _ (Nat.le_refl _), row_cat h B hF hB _ (Nat.le_refl _)]
  have hl2 : ((B.drop (256 * x)).take (256 * tp.length)).length = 256 * tp.length := by rw [List.length_take, List.length_drop]; omega
  refine ⟨?_, ?_, hl2⟩
  · apply List.ext_getElem?
    intro j
    rw [lay_get (by rw [hl2]; exact hs), List.getElem?_take, List.getElem?_take, List.getElem?_drop, List.getElem?_drop, lay_get (by omega)]
    by_cases c : a ≤ j ∧ j < a + s.length
    · rw [if_pos c, if_pos (by omega), if_pos (by omega)]
      congr 1; omega
    · rw [if_neg c, if_neg (show ¬ (256 * x + a ≤ 256 * x + j ∧ 256 * x + j < 256 * x + a + s.length) by omega)]
  · apply List.ext_getElem?
    intro j
    rw [List.getElem?_take, List.getElem?_drop, lay_get (by omega)]
    by_cases c : j < s.length
    · rw [if_pos c, if_pos (by omega)]; congr 1; omega
    · rw [if_neg c, List.getElem?_eq_none (by omega)]
end Go.Proofs.Ytedhefidfepclaa
