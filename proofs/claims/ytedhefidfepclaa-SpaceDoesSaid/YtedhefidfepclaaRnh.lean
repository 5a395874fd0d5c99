/- A region that draws its order, in a round, under a condition that holds behind every operation. No conditions. -/
import Derived.Test.YtedhefidfepclaaRnd
import Derived.OrdersHeld
namespace Go.Proofs.Ytedhefidfepclaa
open Go.RowKit
set_option linter.unusedVariables false

section
variable {P : Program} {ops : Array Oper} {md : Region.Mode} {l : Nat} {n : Nat} {S : World → Prop}
theorem wpIn_of_wp {o : Oper} {a : Act} {w : World} {K : Act → World → Prop} {Q Q' : Exit → Act → World → Prop} (hd : ∀ c, o.op ≠ .defer c) (hQ : ∀ e a w, Q' e a w → Q e a w) (hh : o.wp P a w K Q') :
    o.wpIn (Fence.wide.inRound l) n P a w K Q := by
  unfold Oper.wp at hh
  refine ⟨fun f _ => trivial, ?_⟩
  rw [Oper.semAt_eq _ _ _ hd]
  generalize (execOp a.eval o).run P w = r at *
  cases r with
  | ok m w' =>
    cases m <;> simp only [Oper.upon] at hh <;> simp only [Oper.uponIn]
    case enter f args =>
      refine ⟨(fun q => by cases q), ?_⟩
      refine CallsIn.inRound l (callsIn_wide.2 ?_)
      refine hh.mono fun e w'' q => ?_
      cases e with
      | returned v => exact q
      | panicked c => exact hQ _ _ _ q
      | outgrown => obtain ⟨a', w3, q⟩ := q; exact ⟨a', w3, hQ _ _ _ q⟩
    case row row args => exact ⟨(fun q => by cases q), fun c cs _ => let ⟨v, w'', r, s⟩ := hh c cs; ⟨v, w'', r, stepsIn_wide.2 s⟩⟩
    all_goals exact hh
  | halt x w' =>
    cases x <;> simp only [Oper.upon] at hh <;> simp only [Oper.uponIn]
    exact hQ _ _ _ hh
theorem wpOpIn_of_wpOp (hnd : ∀ (j : Nat) (o : Oper), ops[j]? = some o → ∀ c, o.op ≠ .defer c) {i : Nat} {a : Act} {w : World} {K K' : Act → World → Prop} {Q Q' : Exit → Act → World → Prop} (hQ : ∀ e a w, Q' e a w → Q e a w) (hl : ¬ LetsOut Q') (hK : ∀ a w, K a w → K' a w) (hh : wpOp P ops Q' i K a w) :
    wpOpIn (Fence.wide.inRound l) n P ops Q i K' a w := by
  unfold wpOp at hh
  unfold wpOpIn
  split
  · rename_i ho; simp only [ho] at hh; exact hK _ _ hh
  · rename_i o ho
    simp only [ho] at hh
    split
    · rename_i hw
      simp only [hw, if_true] at hh
      rcases hh with hh | hh
      · exact Oper.wpIn_mono hK (wpIn_of_wp (hnd i o ho) hQ hh)
      · exact absurd hh.2 hl
    · rename_i hw; simp only [hw] at hh; exact ⟨fun f _ => trivial, hK _ _ hh⟩
theorem wpAnyIn_of_held (hnd : ∀ (j : Nat) (o : Oper), ops[j]? = some o → ∀ c, o.op ≠ .defer c) {Q Q' : Exit → Act → World → Prop} (hQ : ∀ e a w, Q' e a w → Q e a w) (hl : ¬ LetsOut Q') :
    ∀ (f : Nat) (listed : Array Bool) (a : Act) (w : World), wpAnyH P md ops Q' S f listed a w → wpAnyIn (Fence.wide.inRound l) n P md ops Q f listed a w
  | 0, listed, a, w, h => ⟨h.1, hQ _ _ _ h.2⟩
  | f + 1, listed, a, w, h => ⟨fun h0 => hQ _ _ _ (h.1 h0), fun i hi => wpOpIn_of_wpOp hnd hQ hl (fun a' w' h' => wpAnyIn_of_held hnd hQ hl f _ a' w' h'.2) (h.2 i hi)⟩
/-- only the normal way out -/
def OnlyN (Q : Exit → Act → World → Prop) : Exit → Act → World → Prop := fun e a w => e = .normal ∧ Q .normal a w
/-- every order of f operations that are not the last one leads, S holding behind each, to a state where the last one alone may come up and T holds -/
def TillLast (P : Program) (md : Region.Mode) (ops : Array Oper) (Q : Exit → Act → World → Prop) (S : World → Prop) (lst : Nat) (T : Array Bool → Act → World → Prop) : Nat → Array Bool → Act → World → Prop
  | 0, listed, a, w => Region.ready md ops listed = [lst] ∧ T listed a w
  | f + 1, listed, a, w => Region.ready md ops listed ≠ [] ∧ ∀ j ∈ Region.ready md ops listed, wpOp P ops Q j (fun a' w' => S w' ∧ TillLast P md ops Q S lst T f (listed.setIfInBounds j true) a' w') a w
theorem tillLast_first {Q : Exit → Act → World → Prop} {lst : Nat} {T : Array Bool → Act → World → Prop} {i : Nat} {oi : Oper} {v : Value} (hi : ops[i]? = some oi) (hsel : ∀ (j : Nat) (o : Oper) cs b, ops[j]? = some o → o.op ≠ .select cs b)
    (hQ : ∀ c a w, Q (.panic c) (a.put oi.dst v) w → Q (.panic c) a w) (hwait : ∃ ol e, ops[lst]? = some ol ∧ e ∈ ol.after ∧ Region.binds md e = true ∧ e.on = i) :
    ∀ (f : Nat) (listed : Array Bool) (a : Act) (w : World),
      (∀ j oj, ops[j]? = some oj → j ≠ i → listed.getD j true = false → (∀ e ∈ oj.after, Region.binds md e = true → e.on ≠ i) → oi.apart ops oj = true) →
      i ∈ Region.ready md ops listed → YieldsIf P ops S oi v a → S w → TillLast P md ops Q S lst T f (listed.setIfInBounds i true) (a.put oi.dst v) w → TillLast P md ops Q S lst T (f + 1) listed a w := by
  -- who comes up beside i is not the last one
  have hnl : ∀ (listed : Array Bool), i ∈ Region.ready md ops listed → lst ∉ Region.ready md ops listed := by
    intro listed hr hl
    obtain ⟨ol, e, ho, he, hb, hon⟩ := hwait
    obtain ⟨_, o2, ho2, hall⟩ := mem_ready.1 hl
    rw [ho] at ho2
    cases ho2
    have h1 := hall e he hb
    have h0 := (mem_ready.1 hr).1
    rw [hon] at h1
    rcases Nat.lt_or_ge i listed.size with q | q
    · simp [q] at h0 h1; rw [h0] at h1; cases h1
    · simp [Array.getElem?_eq_none q] at h1
  intro f
  induction f with
  | zero =>
    intro listed a w _ hr hy hS H
    refine ⟨fun h => (by rw [h] at hr; cases hr), fun j hj => ?_⟩
    by_cases e : j = i
    · subst e; exact hy.wpOp hi hS ⟨hS, H⟩
    · have q := ready_mono hj e
      rw [H.1] at q
      have q2 : j = lst := by simpa using q
      rw [q2] at hj
      exact absurd hj (hnl listed hr)
  | succ f ih =>
    intro listed a w hfree hr hy hS H
    refine ⟨fun h => (by rw [h] at hr; cases hr), fun j hj => ?_⟩
    by_cases e : j = i
    · subst e; exact hy.wpOp hi hS ⟨hS, H⟩
    · have k1 := H.2 j (ready_mono hj e)
      obtain ⟨jun, oj, hoj, hall⟩ := mem_ready.1 hj
      have hno : ∀ q ∈ oj.after, Region.binds md q = true → q.on ≠ i := by
        intro q hq hb heq
        have b1 := hall q hq hb
        have b0 := (mem_ready.1 hr).1
        rw [heq] at b1
        rcases Nat.lt_or_ge i listed.size with z | z
        · simp [z] at b0 b1; rw [b0] at b1; cases b1
        · simp [Array.getElem?_eq_none z] at b1
      have k2 := wpOp_putIf hoj (hfree j oj hoj e jun hno) (fun cs b => hsel i oi cs b hi) (fun cs b => hsel j oj cs b hoj) hQ hy k1
      refine wpOp_mono (fun a' w' k3 => ⟨k3.2.1, ih (listed.setIfInBounds j true) a' w' (fun m om hm hmi hun hn => hfree m om hm hmi ?_ hn) (ready_mono hr (Ne.symm e)) k3.1 k3.2.1 ?_⟩) k2
      · by_cases z : j = m
        · subst z; exact jun
        · rw [getD_set_ne true z] at hun; exact hun
      · rw [Array.setIfInBounds_comm _ _ e]
        exact k3.2.2
/-- number i is taken first -/
theorem tillLast_take {Q : Exit → Act → World → Prop} {lst : Nat} {T : Array Bool → Act → World → Prop} {i : Nat} {oi : Oper} {v : Value} {f : Nat} {listed : Array Bool} {a : Act} {w : World} (hi : ops[i]? = some oi)
    (hs : Region.noSelect ops = true) (hf : Region.free md ops listed i = true) (hr : (Region.ready md ops listed).contains i = true) (hwait : ((ops[lst]?.map (·.after)).getD #[]).any (fun e => Region.binds md e && e.on == i) = true)
    (hy : YieldsIf P ops S oi v a) (hS : S w) (h : TillLast P md ops (OnlyN Q) S lst T f (listed.setIfInBounds i true) (a.put oi.dst v) w) : TillLast P md ops (OnlyN Q) S lst T (f + 1) listed a w := by
  refine tillLast_first hi (Region.noSelect_spec hs) (fun c a w q => by cases q.1) ?_ f listed a w (Region.free_spec hi hf) (by simpa using hr) hy hS h
  cases ho : ops[lst]? with
  | none => rw [ho] at hwait; simp at hwait
  | some ol =>
    rw [ho] at hwait
    obtain ⟨k, hk, q⟩ := Array.any_eq_true.1 hwait
    simp only [Bool.and_eq_true, beq_iff_eq] at q
    exact ⟨ol, _, rfl, Array.getElem_mem hk, q.1, q.2⟩
/-- one operation alone may come up -/
theorem tillLast_one {Q : Exit → Act → World → Prop} {lst : Nat} {T : Array Bool → Act → World → Prop} {i : Nat} {oi : Oper} {f : Nat} {listed : Array Bool} {a : Act} {w w' : World} {v : Value} (hi : ops[i]? = some oi) (hr : Region.ready md ops listed = [i]) (hw : Region.wanted oi (yielded ops a.tmps) = true)
    (he : (execOp a.eval oi).run P w = .ok (.value v) w') (hS : S w') (h : TillLast P md ops Q S lst T f (listed.setIfInBounds i true) (a.put oi.dst v) w') :
    TillLast P md ops Q S lst T (f + 1) listed a w := by
  refine ⟨fun h0 => (by rw [hr] at h0; cases h0), fun j hj => ?_⟩
  rw [hr] at hj
  obtain rfl : j = i := by simpa using hj
  unfold wpOp
  simp only [hi, hw, if_true]
  refine .inl ?_
  unfold Oper.wp
  rw [he]
  exact ⟨hS, h⟩
theorem wpAny_of_till {Q : Exit → Act → World → Prop} {lst : Nat} {T : Array Bool → Act → World → Prop} (hT : ∀ listed a w, Region.ready md ops listed = [lst] → T listed a w → wpAny P md ops Q 1 listed a w) :
    ∀ (f : Nat) (listed : Array Bool) (a : Act) (w : World), TillLast P md ops Q S lst T f listed a w → wpAny P md ops Q (f + 1) listed a w
  | 0, listed, a, w, h => hT _ _ _ h.1 h.2
  | f + 1, listed, a, w, h => ⟨fun h0 => absurd h0 h.1, fun i hi => wpOp_mono (fun a' w' h' => wpAny_of_till hT f _ a' w' h'.2) (h.2 i hi)⟩
theorem wpAnyIn_of_any (hnd : ∀ (j : Nat) (o : Oper), ops[j]? = some o → ∀ c, o.op ≠ .defer c) {Q Q' : Exit → Act → World → Prop} (hQ : ∀ e a w, Q' e a w → Q e a w) (hl : ¬ LetsOut Q') :
    ∀ (f : Nat) (listed : Array Bool) (a : Act) (w : World), wpAny P md ops Q' f listed a w → wpAnyIn (Fence.wide.inRound l) n P md ops Q f listed a w
  | 0, listed, a, w, h => ⟨h.1, hQ _ _ _ h.2⟩
  | f + 1, listed, a, w, h => ⟨fun h0 => hQ _ _ _ (h.1 h0), fun i hi => wpOpIn_of_wpOp hnd hQ hl (fun a' w' h' => wpAnyIn_of_any hnd hQ hl f _ a' w' h') (h.2 i hi)⟩
/-- a region whose last operation is a store that waits for all the others -/
theorem wpIn_round_last (S : World → Prop) {id : Nat} {Q : Exit → Act → World → Prop} {a : Act} {w : World} {l0 : List Oper} {ol : Oper} (lst : Nat) (hm : P.follows .mixedOrders = true) (hnd : noDefer l0 = true) (hsz : l0.length = lst + 1) (hol : l0[lst]? = some ol)
    (h : TillLast P .any l0.toArray (OnlyN Q) S lst (fun listed a' w' => Region.ready .any l0.toArray (listed.setIfInBounds lst true) = [] ∧ Region.wanted ol (yielded l0.toArray a'.tmps) = true ∧ ∃ w2, (execOp a'.eval ol).run P w' = .ok .skip w2 ∧ Q .normal (a'.put ol.dst undef) w2)
      lst (Array.replicate l0.toArray.size false) a w.drew) :
    (Code.region id l0.toArray true).wpIn (Fence.wide.inRound l) n P Q a w := by
  have hnd' : ∀ (j : Nat) (o : Oper), l0.toArray[j]? = some o → ∀ c, o.op ≠ .defer c := fun j o ho => noDefer_spec hnd o (by
    have : l0[j]? = some o := by simpa using ho
    exact List.mem_of_getElem? this)
  have hn : l0.toArray.size = lst + 1 := by simpa using hsz
  have H := wpAny_of_till (fun listed a' w' hr hT => by
    obtain ⟨h1, h2, w2, h3, h4⟩ := hT
    refine ⟨fun h0 => (by rw [hr] at h0; cases h0), fun j hj => ?_⟩
    rw [hr] at hj
    obtain rfl : j = lst := by simpa using hj
    unfold wpOp
    have ho : l0.toArray[j]? = some ol := by simpa using hol
    simp only [ho, h2, if_true]
    refine .inl ?_
    unfold Oper.wp
    rw [h3]
    exact ⟨h1, rfl, h4⟩) _ _ _ _ h
  rw [← hn] at H
  exact wpIn_region_any hm (wpAnyIn_of_any hnd' (fun e a w q => by rw [q.1]; exact q.2) (fun q => by obtain ⟨_, _, e, _⟩ := q; cases e) _ _ _ _ H)
end
end Go.Proofs.Ytedhefidfepclaa
