/- A region that draws its order, in a round of a range over a function: its head read in the text's order, its tail walked. No conditions. -/
import Derived.StillTailTactics
import Derived.OrdersIn
import Derived.RangeFuncCalls
import Derived.TacticsIn
import Derived.OrdersHeld
namespace Go.Proofs.Ytgbmddjpaibcfaa
open Go.RowKit
set_option linter.unusedVariables false

section
variable {P : Program} {ops : Array Oper} {md : Region.Mode} {w : World} {l : Nat} {n : Nat}
def noDefer (ops : List Oper) : Bool := ops.all fun o => match o.op with | .defer _ => false | _ => true
theorem noDefer_spec {l : List Oper} (h : noDefer l = true) : ∀ o ∈ l, ∀ c, o.op ≠ .defer c := by
  intro o ho c e
  have := List.all_eq_true.1 h o ho
  simp [e] at this
theorem wpIn_of_still {o : Oper} {a : Act} {K : Act → Prop} {K' : Act → World → Prop} {Q' : Exit → Act → World → Prop} (hd : ∀ c, o.op ≠ .defer c) (h : ∀ a, K a → K' a w) (hh : o.still P a w K) :
    o.wpIn (Fence.wide.inRound l) n P a w K' Q' := by
  unfold Oper.still at hh
  refine ⟨fun f _ => trivial, ?_⟩
  rw [Oper.semAt_eq _ _ _ hd]
  generalize (execOp a.eval o).run P w = r at *
  cases r with
  | ok m w' =>
    cases m <;> simp only [Oper.stillUpon] at hh <;> simp only [Oper.uponIn]
    case enter f args =>
      obtain ⟨rfl, v, hc, hn⟩ := hh
      refine ⟨(fun q => by cases q), ?_⟩
      refine CallsIn.inRound l (callsIn_wide.2 ?_)
      exact hc.mono fun e w'' ⟨he, hw⟩ => by subst he; subst hw; exact h _ hn
    all_goals (obtain ⟨rfl, h2⟩ := hh; exact h _ h2)
  | halt x w' => simp only [Oper.stillUpon] at hh
theorem wpOpIn_of_stOp (hnd : ∀ (j : Nat) (o : Oper), ops[j]? = some o → ∀ c, o.op ≠ .defer c) {i : Nat} {a : Act} {K : Act → Prop} {K' : Act → World → Prop} {Q' : Exit → Act → World → Prop} (h : ∀ a, K a → K' a w) (hh : stOp P ops w i K a) :
    wpOpIn (Fence.wide.inRound l) n P ops Q' i K' a w := by
  unfold stOp at hh
  unfold wpOpIn
  split
  · rename_i ho; simp only [ho] at hh; exact h _ hh
  · rename_i o ho
    simp only [ho] at hh
    split
    · rename_i hw; simp only [hw, if_true] at hh; exact wpIn_of_still (hnd i o ho) h hh
    · rename_i hw; simp only [hw] at hh; exact ⟨fun f _ => trivial, h _ hh⟩
theorem wpAnyIn_of_head (hnd : ∀ (j : Nat) (o : Oper), ops[j]? = some o → ∀ c, o.op ≠ .defer c) {m g : Nat} {L : Array Bool → Act → Prop} {Q' : Exit → Act → World → Prop} (hL : ∀ listed a, L listed a → wpAnyIn (Fence.wide.inRound l) n P md ops Q' g listed a w) :
    ∀ (f : Nat) (listed : Array Bool) (a : Act), wpAnyL P md ops w m L f listed a → wpAnyIn (Fence.wide.inRound l) n P md ops Q' (f + g) listed a w
  | 0, listed, a, h => by rw [Nat.zero_add]; exact hL _ _ h
  | f + 1, listed, a, h => by
    rw [show f + 1 + g = (f + g) + 1 by omega]
    exact ⟨fun h0 => absurd h0 h.1, fun i hi => wpOpIn_of_stOp hnd (fun a' h' => wpAnyIn_of_head hnd hL f _ a' h') (h.2 i hi).2⟩
theorem wpAnyIn_of_seq {F : Fence} {Q' : Exit → Act → World → Prop} : ∀ (l : List Oper) (k : Nat) (listed : Array Bool) (a : Act) (w : World), (∀ j, l[j]? = ops[k + j]?) →
    Region.seqB md ops l.length k listed = true → wpListIn F n P ops Q' l a w → wpAnyIn F n P md ops Q' l.length listed a w
  | [], _, _, _, _, _, hB, h => ⟨by simpa [Region.seqB] using hB, h⟩
  | o :: l, k, listed, a, w, hl, hB, h => by
    have h0 : ops[k]? = some o := by simpa using (hl 0).symm
    simp only [List.length_cons, Region.seqB, Bool.and_eq_true, decide_eq_true_eq] at hB
    refine ⟨fun h1 => (by rw [hB.1] at h1; cases h1), fun i hi => ?_⟩
    rw [hB.1] at hi
    have hik : i = k := by simpa using hi
    subst hik
    have hw : wpOpIn F n P ops Q' i (wpListIn F n P ops Q' l) a w := by unfold wpOpIn; simp only [h0]; exact h
    exact wpOpIn_mono (fun a' w' h' => wpAnyIn_of_seq l (i + 1) _ a' w' (fun j => by have := hl (j + 1); simpa [Nat.add_assoc, Nat.add_comm 1 j] using this) hB.2 h') hw
/-- the head of k operations reads and yields one value each; the tail is walked -/
theorem wpIn_round_tail {id : Nat} {Q : Exit → Act → World → Prop} {a : Act} {l0 : List Oper} (k : Nat) (hm : P.follows .mixedOrders = true) (hB : Region.lexTailB .any l0.toArray k = true) (hnd : noDefer l0 = true)
    (h : wpStill P l0.toArray { w with drawn := w.drawn + 1 } (fun a' => wpListIn (Fence.wide.inRound l) n P l0.toArray Q (l0.drop k) a' { w with drawn := w.drawn + 1 }) (l0.take k) a) :
    (Code.region id l0.toArray true).wpIn (Fence.wide.inRound l) n P Q a w := by
  have hnd' : ∀ (j : Nat) (o : Oper), l0.toArray[j]? = some o → ∀ c, o.op ≠ .defer c := fun j o ho => noDefer_spec hnd o (by
    have : l0[j]? = some o := by simpa using ho
    exact List.mem_of_getElem? this)
  simp only [Region.lexTailB, Bool.and_eq_true, decide_eq_true_eq] at hB
  obtain ⟨⟨⟨⟨hsel, hn⟩, hs⟩, hc⟩, hlex⟩ := hB
  have hn' : k < l0.length := by simpa using hn
  have htl : (l0.take k).length = k := by simp; omega
  have hdl : (l0.drop k).length = l0.toArray.size - k := by simp
  have inv0 : HeadInv .any l0.toArray k (Array.replicate l0.toArray.size false) :=
    ⟨by simp, fun j oj _ hl => (by rw [getD_replicate_false] at hl; cases hl), fun t _ ht => getD_in (by simpa using ht) (getD_replicate_false _ _)⟩
  have H := wpAnyL_lex (md := .any) (g := l0.toArray.size - k) hsel hs hc hn (l0.take k) 0 _ a (fun j hj => by
    have hj' : j < k := by rw [htl] at hj; exact hj
    simp [hj']) (by simpa using htl) inv0 (by rw [htl]; exact hlex) h
  refine wpIn_region_any hm ?_
  have := wpAnyIn_of_head (l := l) (n := n) hnd' (Q' := Q) (g := l0.toArray.size - k) (fun listed a' hL => by
    have := wpAnyIn_of_seq (n := n) (F := Fence.wide.inRound l) (md := .any) (Q' := Q) (l0.drop k) k listed a' { w with drawn := w.drawn + 1 } (fun j => by simp [List.getElem?_drop]) (by rw [hdl]; exact hL.1) hL.2
    rwa [hdl] at this) _ _ _ H
  rw [htl, show k + (l0.toArray.size - k) = l0.toArray.size by omega] at this
  exact this
end
section
variable {P : Program} {ops : Array Oper} {md : Region.Mode} {l : Nat} {n : Nat} {S : World → Prop}
theorem wpIn_of_wp {o : Oper} {a : Act} {w : World} {K : Act → World → Prop} {Q Q' : Exit → Act → World → Prop} (hd : ∀ c, o.op ≠ .defer c) (hQ : ∀ e a w, Q' e a w → Q e a w) (hh : o.wp P a w K Q') :
    o.wpIn (Fence.wide.inRound l) n P a w K Q := by
  unfold Oper.wp at hh
  refine ⟨fun f _ => trivial, ?_⟩
  rw [Oper.semAt_eq _ _ _ hd]
  generalize (execOp a.eval o).run P w = r at *
  cases r with
  | ok m w' =>
    cases m <;> simp only [Oper.upon] at hh <;> simp only [Oper.uponIn]
    case enter f args =>
      refine ⟨(fun q => by cases q), ?_⟩
      refine CallsIn.inRound l (callsIn_wide.2 ?_)
      refine hh.mono fun e w'' q => ?_
      cases e with
      | returned v => exact q
      | panicked c => exact hQ _ _ _ q
      | outgrown => obtain ⟨a', w3, q⟩ := q; exact ⟨a', w3, hQ _ _ _ q⟩
    case row row args => exact ⟨(fun q => by cases q), fun c cs _ => let ⟨v, w'', r, s⟩ := hh c cs; ⟨v, w'', r, stepsIn_wide.2 s⟩⟩
    all_goals exact hh
  | halt x w' =>
    cases x <;> simp only [Oper.upon] at hh <;> simp only [Oper.uponIn]
    exact hQ _ _ _ hh
theorem wpOpIn_of_wpOp (hnd : ∀ (j : Nat) (o : Oper), ops[j]? = some o → ∀ c, o.op ≠ .defer c) {i : Nat} {a : Act} {w : World} {K K' : Act → World → Prop} {Q Q' : Exit → Act → World → Prop} (hQ : ∀ e a w, Q' e a w → Q e a w) (hl : ¬ LetsOut Q') (hK : ∀ a w, K a w → K' a w) (hh : wpOp P ops Q' i K a w) :
    wpOpIn (Fence.wide.inRound l) n P ops Q i K' a w := by
  unfold wpOp at hh
  unfold wpOpIn
  split
  · rename_i ho; simp only [ho] at hh; exact hK _ _ hh
  · rename_i o ho
    simp only [ho] at hh
    split
    · rename_i hw
      simp only [hw, if_true] at hh
      rcases hh with hh | hh
      · exact Oper.wpIn_mono hK (wpIn_of_wp (hnd i o ho) hQ hh)
      · exact absurd hh.2 hl
    · rename_i hw; simp only [hw] at hh; exact ⟨fun f _ => trivial, hK _ _ hh⟩
theorem wpAnyIn_of_held (hnd : ∀ (j : Nat) (o : Oper), ops[j]? = some o → ∀ c, o.op ≠ .defer c) {Q Q' : Exit → Act → World → Prop} (hQ : ∀ e a w, Q' e a w → Q e a w) (hl : ¬ LetsOut Q') :
    ∀ (f : Nat) (listed : Array Bool) (a : Act) (w : World), wpAnyH P md ops Q' S f listed a w → wpAnyIn (Fence.wide.inRound l) n P md ops Q f listed a w
  | 0, listed, a, w, h => ⟨h.1, hQ _ _ _ h.2⟩
  | f + 1, listed, a, w, h => ⟨fun h0 => hQ _ _ _ (h.1 h0), fun i hi => wpOpIn_of_wpOp hnd hQ hl (fun a' w' h' => wpAnyIn_of_held hnd hQ hl f _ a' w' h'.2) (h.2 i hi)⟩
/-- only the normal way out -/
def OnlyN (Q : Exit → Act → World → Prop) : Exit → Act → World → Prop := fun e a w => e = .normal ∧ Q .normal a w
/-- every order of f operations that are not the last one leads, S holding behind each, to a state where the last one alone may come up and T holds -/
def TillLast (P : Program) (md : Region.Mode) (ops : Array Oper) (Q : Exit → Act → World → Prop) (S : World → Prop) (lst : Nat) (T : Array Bool → Act → World → Prop) : Nat → Array Bool → Act → World → Prop
  | 0, listed, a, w => Region.ready md ops listed = [lst] ∧ T listed a w
  | f + 1, listed, a, w => Region.ready md ops listed ≠ [] ∧ ∀ j ∈ Region.ready md ops listed, wpOp P ops Q j (fun a' w' => S w' ∧ TillLast P md ops Q S lst T f (listed.setIfInBounds j true) a' w') a w
theorem tillLast_first {Q : Exit → Act → World → Prop} {lst : Nat} {T : Array Bool → Act → World → Prop} {i : Nat} {oi : Oper} {v : Value} (hi : ops[i]? = some oi) (hsel : ∀ (j : Nat) (o : Oper) cs b, ops[j]? = some o → o.op ≠ .select cs b)
    (hQ : ∀ c a w, Q (.panic c) (a.put oi.dst v) w → Q (.panic c) a w) (hwait : ∃ ol e, ops[lst]? = some ol ∧ e ∈ ol.after ∧ Region.binds md e = true ∧ e.on = i) :
    ∀ (f : Nat) (listed : Array Bool) (a : Act) (w : World),
      (∀ j oj, ops[j]? = some oj → j ≠ i → listed.getD j true = false → (∀ e ∈ oj.after, Region.binds md e = true → e.on ≠ i) → oi.apart ops oj = true) →
      i ∈ Region.ready md ops listed → YieldsIf P ops S oi v a → S w → TillLast P md ops Q S lst T f (listed.setIfInBounds i true) (a.put oi.dst v) w → TillLast P md ops Q S lst T (f + 1) listed a w := by
  -- who comes up beside i is not the last one
  have hnl : ∀ (listed : Array Bool), i ∈ Region.ready md ops listed → lst ∉ Region.ready md ops listed := by
    intro listed hr hl
    obtain ⟨ol, e, ho, he, hb, hon⟩ := hwait
    obtain ⟨_, o2, ho2, hall⟩ := mem_ready.1 hl
    rw [ho] at ho2
    cases ho2
    have h1 := hall e he hb
    have h0 := (mem_ready.1 hr).1
    rw [hon] at h1
    rcases Nat.lt_or_ge i listed.size with q | q
    · simp [q] at h0 h1; rw [h0] at h1; cases h1
    · simp [Array.getElem?_eq_none q] at h1
  intro f
  induction f with
  | zero =>
    intro listed a w _ hr hy hS H
    refine ⟨fun h => (by rw [h] at hr; cases hr), fun j hj => ?_⟩
    by_cases e : j = i
    · subst e; exact hy.wpOp hi hS ⟨hS, H⟩
    · have q := ready_mono hj e
      rw [H.1] at q
      have q2 : j = lst := by simpa using q
      rw [q2] at hj
      exact absurd hj (hnl listed hr)
  | succ f ih =>
    intro listed a w hfree hr hy hS H
    refine ⟨fun h => (by rw [h] at hr; cases hr), fun j hj => ?_⟩
    by_cases e : j = i
    · subst e; exact hy.wpOp hi hS ⟨hS, H⟩
    · have k1 := H.2 j (ready_mono hj e)
      obtain ⟨jun, oj, hoj, hall⟩ := mem_ready.1 hj
      have hno : ∀ q ∈ oj.after, Region.binds md q = true → q.on ≠ i := by
        intro q hq hb heq
        have b1 := hall q hq hb
        have b0 := (mem_ready.1 hr).1
        rw [heq] at b1
        rcases Nat.lt_or_ge i listed.size with z | z
        · simp [z] at b0 b1; rw [b0] at b1; cases b1
        · simp [Array.getElem?_eq_none z] at b1
      have k2 := wpOp_putIf hoj (hfree j oj hoj e jun hno) (fun cs b => hsel i oi cs b hi) (fun cs b => hsel j oj cs b hoj) hQ hy k1
      refine wpOp_mono (fun a' w' k3 => ⟨k3.2.1, ih (listed.setIfInBounds j true) a' w' (fun m om hm hmi hun hn => hfree m om hm hmi ?_ hn) (ready_mono hr (Ne.symm e)) k3.1 k3.2.1 ?_⟩) k2
      · by_cases z : j = m
        · subst z; exact jun
        · rw [getD_set_ne true z] at hun; exact hun
      · rw [Array.setIfInBounds_comm _ _ e]
        exact k3.2.2
/-- number i is taken first -/
theorem tillLast_take {Q : Exit → Act → World → Prop} {lst : Nat} {T : Array Bool → Act → World → Prop} {i : Nat} {oi : Oper} {v : Value} {f : Nat} {listed : Array Bool} {a : Act} {w : World} (hi : ops[i]? = some oi)
    (hs : Region.noSelect ops = true) (hf : Region.free md ops listed i = true) (hr : (Region.ready md ops listed).contains i = true) (hwait : ((ops[lst]?.map (·.after)).getD #[]).any (fun e => Region.binds md e && e.on == i) = true)
    (hy : YieldsIf P ops S oi v a) (hS : S w) (h : TillLast P md ops (OnlyN Q) S lst T f (listed.setIfInBounds i true) (a.put oi.dst v) w) : TillLast P md ops (OnlyN Q) S lst T (f + 1) listed a w := by
  refine tillLast_first hi (Region.noSelect_spec hs) (fun c a w q => by cases q.1) ?_ f listed a w (Region.free_spec hi hf) (by simpa using hr) hy hS h
  cases ho : ops[lst]? with
  | none => rw [ho] at hwait; simp at hwait
  | some ol =>
    rw [ho] at hwait
    obtain ⟨k, hk, q⟩ := Array.any_eq_true.1 hwait
    simp only [Bool.and_eq_true, beq_iff_eq] at q
    exact ⟨ol, _, rfl, Array.getElem_mem hk, q.1, q.2⟩
/-- one operation alone may come up -/
theorem tillLast_one {Q : Exit → Act → World → Prop} {lst : Nat} {T : Array Bool → Act → World → Prop} {i : Nat} {oi : Oper} {f : Nat} {listed : Array Bool} {a : Act} {w w' : World} {v : Value} (hi : ops[i]? = some oi) (hr : Region.ready md ops listed = [i]) (hw : Region.wanted oi (yielded ops a.tmps) = true)
    (he : (execOp a.eval oi).run P w = .ok (.value v) w') (hS : S w') (h : TillLast P md ops Q S lst T f (listed.setIfInBounds i true) (a.put oi.dst v) w') :
    TillLast P md ops Q S lst T (f + 1) listed a w := by
  refine ⟨fun h0 => (by rw [hr] at h0; cases h0), fun j hj => ?_⟩
  rw [hr] at hj
  obtain rfl : j = i := by simpa using hj
  unfold wpOp
  simp only [hi, hw, if_true]
  refine .inl ?_
  unfold Oper.wp
  rw [he]
  exact ⟨hS, h⟩
/-- a call alone may come up -/
theorem tillLast_call {Q : Exit → Act → World → Prop} {lst : Nat} {T : Array Bool → Act → World → Prop} {i : Nat} {oi : Oper} {f : Nat} {listed : Array Bool} {a : Act} {w : World} {fid : FuncId} {args : Array Value} {R : Ending → World → Prop} (hi : ops[i]? = some oi) (hr : Region.ready md ops listed = [i]) (hw : Region.wanted oi (yielded ops a.tmps) = true)
    (he : (execOp a.eval oi).run P w = .ok (.enter fid args) w) (hc : Calls P fid args w R) (h : ∀ e w', R e w' → ∃ v, e = .returned v ∧ S w' ∧ TillLast P md ops Q S lst T f (listed.setIfInBounds i true) (a.put oi.dst v) w') :
    TillLast P md ops Q S lst T (f + 1) listed a w := by
  refine ⟨fun h0 => (by rw [hr] at h0; cases h0), fun j hj => ?_⟩
  rw [hr] at hj
  obtain rfl : j = i := by simpa using hj
  unfold wpOp
  simp only [hi, hw, if_true]
  refine .inl ?_
  unfold Oper.wp
  rw [he]
  exact hc.mono fun e w' r => by
    obtain ⟨v, rfl, q⟩ := h e w' r
    exact q
theorem wpAny_of_till {Q : Exit → Act → World → Prop} {lst : Nat} {T : Array Bool → Act → World → Prop} (hT : ∀ listed a w, Region.ready md ops listed = [lst] → T listed a w → wpAny P md ops Q 1 listed a w) :
    ∀ (f : Nat) (listed : Array Bool) (a : Act) (w : World), TillLast P md ops Q S lst T f listed a w → wpAny P md ops Q (f + 1) listed a w
  | 0, listed, a, w, h => hT _ _ _ h.1 h.2
  | f + 1, listed, a, w, h => ⟨fun h0 => absurd h0 h.1, fun i hi => wpOp_mono (fun a' w' h' => wpAny_of_till hT f _ a' w' h'.2) (h.2 i hi)⟩
theorem wpAnyIn_of_any (hnd : ∀ (j : Nat) (o : Oper), ops[j]? = some o → ∀ c, o.op ≠ .defer c) {Q Q' : Exit → Act → World → Prop} (hQ : ∀ e a w, Q' e a w → Q e a w) (hl : ¬ LetsOut Q') :
    ∀ (f : Nat) (listed : Array Bool) (a : Act) (w : World), wpAny P md ops Q' f listed a w → wpAnyIn (Fence.wide.inRound l) n P md ops Q f listed a w
  | 0, listed, a, w, h => ⟨h.1, hQ _ _ _ h.2⟩
  | f + 1, listed, a, w, h => ⟨fun h0 => hQ _ _ _ (h.1 h0), fun i hi => wpOpIn_of_wpOp hnd hQ hl (fun a' w' h' => wpAnyIn_of_any hnd hQ hl f _ a' w' h') (h.2 i hi)⟩
/-- a region whose last operation is a store that waits for all the others -/
theorem wpIn_round_last (S : World → Prop) {id : Nat} {Q : Exit → Act → World → Prop} {a : Act} {w : World} {l0 : List Oper} {ol : Oper} (lst : Nat) (hm : P.follows .mixedOrders = true) (hnd : noDefer l0 = true) (hsz : l0.length = lst + 1) (hol : l0[lst]? = some ol)
    (h : TillLast P .any l0.toArray (OnlyN Q) S lst (fun listed a' w' => Region.ready .any l0.toArray (listed.setIfInBounds lst true) = [] ∧ Region.wanted ol (yielded l0.toArray a'.tmps) = true ∧ ∃ w2, (execOp a'.eval ol).run P w' = .ok .skip w2 ∧ Q .normal (a'.put ol.dst undef) w2)
      lst (Array.replicate l0.toArray.size false) a w.drew) :
    (Code.region id l0.toArray true).wpIn (Fence.wide.inRound l) n P Q a w := by
  have hnd' : ∀ (j : Nat) (o : Oper), l0.toArray[j]? = some o → ∀ c, o.op ≠ .defer c := fun j o ho => noDefer_spec hnd o (by
    have : l0[j]? = some o := by simpa using ho
    exact List.mem_of_getElem? this)
  have hn : l0.toArray.size = lst + 1 := by simpa using hsz
  have H := wpAny_of_till (fun listed a' w' hr hT => by
    obtain ⟨h1, h2, w2, h3, h4⟩ := hT
    refine ⟨fun h0 => (by rw [hr] at h0; cases h0), fun j hj => ?_⟩
    rw [hr] at hj
    obtain rfl : j = lst := by simpa using hj
    unfold wpOp
    have ho : l0.toArray[j]? = some ol := by simpa using hol
    simp only [ho, h2, if_true]
    refine .inl ?_
    unfold Oper.wp
    rw [h3]
    exact ⟨h1, rfl, h4⟩) _ _ _ _ h
  rw [← hn] at H
  exact wpIn_region_any hm (wpAnyIn_of_any hnd' (fun e a w q => by rw [q.1]; exact q.2) (fun q => by obtain ⟨_, _, e, _⟩ := q; cases e) _ _ _ _ H)
end
end Go.Proofs.Ytgbmddjpaibcfaa
