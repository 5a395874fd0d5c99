/- Assembling, as a pure function, and what it keeps. No conditions. -/
import Derived.Test.YtmclcobklcjmnaaDoorLed
namespace Go.Proofs.YtmclcobklcjmnaaDoor
open Go.RowKit Go.Maps
set_option linter.unusedVariables false
set_option linter.unusedSimpArgs false

/-- the state between two lines: numbers in their bounds, each way within the program and as many as the program bears -/
structure St.good (S : St) : Prop where
  ok : S.ok
  way : ∀ x ∈ S.ways, x.place + 4 ≤ S.prog.length ∧ x.label.length ≤ 12
  many : 4 * S.ways.length ≤ S.prog.length
def newSt : St := ⟨[], fun _ => none, 0, []⟩
theorem new_good : newSt.good where
  ok := ⟨(fun l v h => by unfold newSt at h; cases h), Nat.zero_le _⟩
  way := fun x h => by unfold newSt at h; cases h
  many := Nat.le_refl _
def addsP (S : St) (n : Nat) : List Bs → (Int × Int) ⊕ St
  | [] => .inr S
  | l :: r => match addP S l ((n : Int) + 1) with
    | .inl c => .inl (c, (n : Int) + 1)
    | .inr S' => addsP S' (n + 1) r
def leadsP (S : St) : List Way → (Int × Int) ⊕ St
  | [] => .inr S
  | x :: r => match leadP S x with
    | .inl c => .inl (c, x.line)
    | .inr S' => leadsP S' r
/-- the program of the lines, or the mistake and the line of it -/
def asmP (ls : List Bs) : (Int × Int) ⊕ Bs := match addsP newSt 0 ls with
  | .inl c => .inl c
  | .inr S => match leadsP S S.ways with
    | .inl c => .inl c
    | .inr S' => .inr S'.prog
theorem add_good {S S' : St} {l : Bs} {num : Int} (h : S.good) (ha : addP S l num = .inr S') : S'.good ∧ S'.count ≤ S.count + 1 := by
  unfold addP at ha
  split at ha
  · injection ha with ha; subst ha; exact ⟨h, by omega⟩
  · split at ha
    · unfold nameP at ha
      split at ha
      · cases ha
      · split at ha
        · cases ha
        · injection ha with ha
          subst ha
          refine ⟨⟨⟨fun x v hx => ?_, h.ok.2⟩, h.way, h.many⟩, Nat.le_refl _⟩
          dsimp only at hx
          split at hx
          · injection hx with hx
            have := h.ok.2
            omega
          · exact h.ok.1 x v hx
    · split at ha
      · cases ha
      · rename_i b lb hb
        split at ha
        · cases ha
        · rename_i hlt
          injection ha with ha
          subst ha
          obtain ⟨b4, l12⟩ := bof_len hb
          refine ⟨⟨⟨h.ok.1, ?_⟩, fun x hx => ?_, ?_⟩, by dsimp only; omega⟩
          · dsimp only; rw [List.length_append]; omega
          · dsimp only at hx ⊢
            rw [List.length_append]
            split at hx
            · have := h.way x hx; exact ⟨by omega, this.2⟩
            · rcases List.mem_append.1 hx with hx | hx
              · have := h.way x hx; exact ⟨by omega, this.2⟩
              · obtain rfl := List.mem_singleton.1 hx
                exact ⟨by dsimp only; omega, l12⟩
          · dsimp only
            rw [List.length_append]
            have := h.many
            split
            · omega
            · rw [List.length_append]; simp; omega
theorem lead_good {S S' : St} {x : Way} (h : S.good) (hx : x.place + 4 ≤ S.prog.length) (hl : leadP S x = .inr S') : S'.good ∧ S'.ways = S.ways ∧ S'.labels = S.labels ∧ S'.count = S.count ∧ S'.prog.length = S.prog.length := by
  unfold leadP at hl
  split at hl
  · cases hl
  · split at hl
    · injection hl with hl
      subst hl
      have e : (S.prog.take x.place ++ encI (ledI S x (by assumption)) ++ S.prog.drop (x.place + 4)).length = S.prog.length := by
        rw [List.length_append, List.length_append, enc_len, List.length_take, List.length_drop]; omega
      exact ⟨⟨⟨h.ok.1, by dsimp only; rw [e]; exact h.ok.2⟩, fun y hy => by dsimp only; rw [e]; exact h.way y hy, by dsimp only; rw [e]; exact h.many⟩, rfl, rfl, rfl, e⟩
    · cases hl
theorem adds_good {ls : List Bs} : ∀ {S S' : St} {n : Nat}, S.good → addsP S n ls = .inr S' → S'.good ∧ S'.count ≤ S.count + ls.length := by
  induction ls with
  | nil => intro S S' n h ha; injection ha with ha; subst ha; exact ⟨h, by simp⟩
  | cons l r ih =>
    intro S S' n h ha
    unfold addsP at ha
    split at ha
    · cases ha
    · rename_i S1 h1
      obtain ⟨g1, c1⟩ := add_good h h1
      obtain ⟨g2, c2⟩ := ih g1 ha
      exact ⟨g2, by rw [List.length_cons]; omega⟩
end Go.Proofs.YtmclcobklcjmnaaDoor
