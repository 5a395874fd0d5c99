/- What the cells have, while the power is there. No conditions. -/
import Derived.Test.YtjippoejaieneaaGreatCml
import Derived.Test.YtjippoejaieneaaGreatJcx
import Derived.Test.YtjippoejaieneaaGreatJrd
namespace Go.Proofs.YtjippoejaieneaaGreat
open Go.RowKit Go.Maps
set_option maxRecDepth 20000
set_option linter.unusedVariables false

/-- a write that goes through, at a block of its own -/
def okStp (V : Dv) : Stp → Prop
  | .wr i d n => 0 ≤ i ∧ i < (V.cnt : Int) ∧ d.length ≤ 116 ∧ stOk n
  | .bar => True
def lastW : List Stp → Int → Option (Bts × Int)
  | [], _ => none
  | .wr i d n :: r, k => match lastW r k with | some z => some z | none => if k = i then some (d, n) else none
  | .bar :: r, k => lastW r k
theorem lastW_app (a b : List Stp) (k : Int) : lastW (a ++ b) k = match lastW b k with | some z => some z | none => lastW a k := by
  induction a with
  | nil => cases h : lastW b k <;> simp [lastW, h]
  | cons s r ih =>
    cases s with
    | bar => simp only [List.cons_append, lastW]; exact ih
    | wr i d n =>
      simp only [List.cons_append, lastW, ih]
      cases h : lastW b k <;> rfl
theorem okStp_cnt {V V' : Dv} (h : V'.cnt = V.cnt) (s : Stp) : okStp V' s ↔ okStp V s := by cases s <;> simp [okStp, h]
theorem stp_sct {n : Nat} {S : St} {V : Dv} (hc : Calm n S) (hg : Good S V) (s : Stp) (ho : okStp V s) (k : Int) (hk : 0 ≤ k ∧ k < (V.cnt : Int)) : sct (stpS S V s) (stpV S V s) k = match lastW [s] k with | some (d, m) => blkB d m | none => sct S V k := by
  have hf := hg.fit
  unfold Fit at hf
  cases s with
  | bar =>
    show sct (S.flush (V.first : Int) (V.cnt : Int)).1 V k = sct S V k
    unfold sct
    have hdd := hc.dead
    rcases flush_cases hc.ok hg.ok hg.fit with ⟨h1, _⟩ | ⟨_, _, _, _, _, h⟩ | ⟨_, h2, _⟩
    · rw [hdd] at h1; cases h1
    · exact h _ (by omega)
    · rw [bar_calm hc hg.ok hg.fit] at h2; cases h2
  | wr i d m =>
    obtain ⟨h0, h1, h2, h3⟩ := ho
    have hdd := hc.dead
    have hr : refE S V i = 0 := by unfold refE; rw [hdd]; simp only [Bool.false_eq_true, if_false]; rw [if_neg (by omega)]
    have hb : bytE d m = 0 := bytE_of h2 h3
    obtain ⟨va, vb, vc, vd⟩ := wrV_cnt S V i d m
    show (wrS S V i d m).one full ((wrV S V i d m).first + k.toNat) = _
    rw [va]
    rcases calm_wrS hc hg.fit i d m with ⟨_, _, _, _, _, e⟩ | ⟨e1, _⟩
    · rw [e, one_put hc.ok (by omega) (blkB_len m h2)]
      simp only [lastW]
      by_cases q : k = i
      · subst q; rw [if_pos rfl, if_pos rfl]
      · rw [if_neg (by omega), if_neg q]; rfl
    · exfalso
      apply e1
      unfold wrE
      rw [if_neg (by simpa using hr), if_neg (by simpa using hb), write_ok hc.ok hg.fit hdd h0 h1 (blkB_len m h2)]
      have : (S.put (V.first + i.toNat) (blkB d m)).change = (S.put (V.first + i.toNat) (blkB d m), 0) := by unfold St.change; rw [if_pos (show (S.put (V.first + i.toNat) (blkB d m)).armed = 0 from hc.armed)]
      rw [this]
theorem run_sct {n : Nat} : ∀ (l : List Stp) {S : St} {V : Dv}, Calm n S → Good S V → (∀ s ∈ l, okStp V s) → ∀ k : Int, 0 ≤ k ∧ k < (V.cnt : Int) → sct (runS l S V).1 (runS l S V).2 k = match lastW l k with | some (d, m) => blkB d m | none => sct S V k
  | [], S, V, hc, hg, ho, k, hk => rfl
  | s :: r, S, V, hc, hg, ho, k, hk => by
    obtain ⟨h1, h2⟩ := calm_stp hc hg s
    obtain ⟨g1, g2, _, _, g5, _⟩ := stp_good hc.ok hg s
    have ih := run_sct r h2 g1 (fun t ht => (okStp_cnt g5 t).2 (ho t (List.mem_cons_of_mem _ ht))) k (by rw [g5]; exact hk)
    have e : runS (s :: r) S V = runS r (stpS S V s) (stpV S V s) := by simp only [runS]; rw [if_neg h1]
    rw [e, ih, stp_sct hc hg s (ho s List.mem_cons_self) k hk]
    have ea := lastW_app [s] r k
    rw [List.cons_append, List.nil_append] at ea
    rw [ea]
    cases lastW r k <;> rfl
/-- what is read of a block behind steps -/
theorem run_rd {n : Nat} {l : List Stp} {S : St} {V : Dv} (hc : Calm n S) (hg : Good S V) (ho : ∀ s ∈ l, okStp V s) {k : Int} (hk : 0 ≤ k ∧ k < (V.cnt : Int)) :
    (lastW l k = none → rdE (runS l S V).1 (runS l S V).2 k = rdE S V k ∧ rdD (runS l S V).1 (runS l S V).2 k = rdD S V k ∧ rdN (runS l S V).1 (runS l S V).2 k = rdN S V k) ∧
    (∀ d m, lastW l k = some (d, m) → d.length ≤ 116 → stOk m → rdE (runS l S V).1 (runS l S V).2 k = 0 ∧ rdD (runS l S V).1 (runS l S V).2 k = padB d ∧ rdN (runS l S V).1 (runS l S V).2 k = m) := by
  have hs := run_sct l hc hg ho k hk
  have hd := hc.dead
  have hd2 := (calm_run l hc hg).2.dead
  have hcn := run_cnt (l := l) hc.ok hg
  have r1 : refE S V k = 0 := by unfold refE; rw [hd]; simp only [Bool.false_eq_true, if_false]; rw [if_neg (by omega)]
  have r2 : refE (runS l S V).1 (runS l S V).2 k = 0 := by unfold refE; rw [hd2, hcn]; simp only [Bool.false_eq_true, if_false]; rw [if_neg (by omega)]
  refine ⟨fun h => ?_, fun d m h h1 h2 => ?_⟩
  · rw [h] at hs
    simp only at hs
    unfold rdE rdD rdN
    rw [r1, r2, hs]
    exact ⟨rfl, rfl, rfl⟩
  · rw [h] at hs
    simp only at hs
    unfold rdE rdD rdN
    rw [r2, hs]
    simp only [ne_eq, not_true_eq_false, if_false]
    exact ⟨par_blk h1 h2, parD_blk h1 h2, parN_blk h1 h2⟩
/-- which blocks the steps of a journal write -/
theorem lastW_recS (en next : Int) (l : List Wt) : ∀ (k : Nat) (i : Int), i < en ∨ en + (k : Int) < i → lastW (recS en next l k) i = none
  | 0, i, h => by
    unfold recS
    simp only [List.range_zero, List.map_nil, lastW]
    rw [if_neg (by omega)]
  | k + 1, i, h => by
    rw [recS_succ, lastW_app, lastW_recS en next l k i (by omega)]
    simp only [lastW]
    rw [if_neg (by omega)]
theorem lastW_homS (area : Nat) (M : Nat → Option Bts) (ks : List Nat) : ∀ (k : Nat), k ≤ ks.length → ∀ i : Int, i < (area : Int) → lastW (homS area M ks k) i = none
  | 0, _, i, h => by unfold homS; simp [lastW]
  | k + 1, hk, i, h => by
    rw [homS_succ area M ks k (by omega), lastW_app, lastW_homS area M ks k (by omega) i h]
    simp only [lastW]
    rw [if_neg (by omega)]
theorem lastW_home (area : Nat) (M : Nat → Option Bts) (ks : List Nat) (c : Nat) : ∀ (k : Nat), k ≤ ks.length → lastW (homS area M ks k) ((area : Int) + (c : Int)) = if c ∈ ks.take k then some ((M c).getD zD, 0) else none
  | 0, _ => by unfold homS; simp [lastW]
  | k + 1, hk => by
    rw [homS_succ area M ks k (by omega), lastW_app, lastW_home area M ks c k (by omega), List.take_add_one, List.getElem?_eq_getElem (by omega)]
    simp only [lastW, Option.toList, List.mem_append, List.mem_singleton]
    by_cases q : c = ks[k]
    · subst q; simp
    · rw [if_neg (by omega)]
      by_cases q2 : c ∈ ks.take k
      · rw [if_pos q2, if_pos (.inl q2)]
      · rw [if_neg q2, if_neg (by rintro (z | z); exact q2 z; exact q z)]
end Go.Proofs.YtjippoejaieneaaGreat
