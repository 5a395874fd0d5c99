/- A range over the pieces, whose variable lies in a box: what the caller owes. No conditions. -/
import Derived.Test.YtedhefidfepclaaThr
import Derived.Test.YtedhefidfepclaaRnd
namespace Go.Proofs.Ytedhefidfepclaa
open Go.RowKit Go.Maps Go.Shelf
set_option linter.unusedVariables false

def pcells (x : Pc) : Array Value := #[.int .i64 x.f, .int .i64 x.r, .int .i64 (x.a : Int), .int .i64 (x.b : Int)]
/-- the round's slots: the variable's value in ps, its box in bs -/
def rtmps (T : Array Value) (ps bs : Nat) (x : Pc) (Bx : Nat) : Array Value := (T.setIfInBounds ps (.agg (pcells x))).setIfInBounds bs (.pointer (some ⟨Bx, 0, none⟩))
theorem range_boxed {g : Operand} {sl bs : Nat} {assign body : Code} {Q : Exit → Act → World → Prop} {a : Act} {w : World} {b s n1 : Nat} (G : Nat → Prop) (at0 : Int) (n0 : Nat) (hat : In64 at0) (hn0 : n0 ≤ 4096) (v : Value) (ps : List Pg) (hps : ps.length ≤ 16)
    (Qp : Pc → Prop) (hQ : ∀ pre at' m, Gone ps at0 n0 pre at' m → 0 < m → Qp (cur ps at' m))
    (hg : a.eval g = .func (.func 78) #[] #[.pointer (some ⟨b + 1, 0, none⟩), .pointer (some ⟨b + 1 + 1, 0, none⟩), .pointer (some ⟨b, 0, none⟩)])
    (h3 : Three w b v at0 n0) (hT : TabV (fun k => G k ∧ k < s) w v ps) (hs : s ≤ n1) (hb : b + 3 ≤ n1) (hw : w.heap.size = n1)
    (I : List {x : Pc // Qp x} → World → Prop) (Ix : Code → List {x : Pc // Qp x} → World → Prop) (hI : OwnFrom n1 I) (hIx : ∀ c, OwnFrom n1 (Ix c)) (h0 : I [] w) (hIn : ∀ pre W, I pre W → n1 ≤ W.heap.size)
    (hassign : ∀ (l : Nat) (pre : List {x : Pc // Qp x}) (x : {x : Pc // Qp x}) (W : World) (K : Act → World → Prop), I pre W →
      K { tmps := rtmps a.tmps sl bs x.1 W.heap.size, defers := [] } (W.alloc (.cells (pcells x.1) 121)) →
      assign.wpIn (Fence.wide.inRound l) 7 Try.prog (Exit.then K (fun _ _ _ => False)) { tmps := ((#[sl] : Array Tmp).zip (encP x.1)).foldl (fun t (p, v) => t.setIfInBounds p v) a.tmps, defers := [] } W)
    (hIa : ∀ pre W o, I pre W → I pre (W.alloc o))
    (hbody : ∀ (l : Nat) (pre : List {x : Pc // Qp x}) (x : {x : Pc // Qp x}) (Bx : Nat) (W : World), n1 ≤ l → (∃ r, W.heap[l]? = some (.loop r)) → I pre W → n1 ≤ Bx → W.heap[Bx]? = some (.cells (pcells x.1) 121 (0, 0)) → pre.length < n0 →
      body.wpIn (Fence.wide.inRound l) 7 Try.prog (ownPostG n1 (KS (KK G s b)) I Ix (pre ++ [x]) W) { tmps := rtmps a.tmps sl bs x.1 Bx, defers := [] } W)
    (hdone : ∀ (D : Nat) (xs : List {x : Pc // Qp x}) (W : World), n1 ≤ D → AllP ps at0 n0 (xs.map (·.1)) → I xs W → W.heap[D]? = some (.deferred (some [])) → Q .normal { a with defers := { target := .collected D, args := #[] } :: a.defers } W)
    (hstop : ∀ (D : Nat) (c : Code) (pre : List {x : Pc // Qp x}) (W : World), n1 ≤ D → SomeP ps at0 n0 (pre.map (·.1)) → Ix c pre W → W.heap[D]? = some (.deferred (some [])) → c.wpIn Fence.wide 9 Try.prog Q { a with defers := { target := .collected D, args := #[] } :: a.defers } W) :
    (Code.rangeFunc g #[sl] assign body).wpIn Fence.wide 9 Try.prog Q a w := by
  subst hw
  refine wpIn_rangeFunc_ownH (F := Fence.wide) rfl (by omega) hg trivial (enters_of Try.func78 (by kernel_rfl) rfl)
    (pieces_stops 8 (by omega) b s G at0 n0 hat hn0 v ps hps Qp hQ w h3 hT)
    KS.trans (KS.b hs hb) (Below.refl _ _) (fun _ => rfl) I Ix hI hIx h0
    (fun x a' W => ∃ Bx, w.heap.size ≤ Bx ∧ W.heap[Bx]? = some (.cells (pcells x.1) 121 (0, 0)) ∧ a' = { tmps := rtmps a.tmps sl bs x.1 Bx, defers := [] })
    ?hAx ?assign ?body hdone hstop
  case hAx =>
    intro x a' _ W W' row h hg hr
    obtain ⟨Bx, h1, h2, h3⟩ := h
    refine ⟨Bx, h1, ?_, h3⟩
    rw [hg.block Bx (block_lt h2) (fun e => ?_)]; exact h2
    obtain ⟨_, o, ho, hc⟩ := hr _ e.symm
    rw [h2] at ho; cases ho; cases hc
  case assign =>
    rintro l pre x W K hi hK
    exact hassign l pre x W K hi (hK _ _ ((KeepsOthers.alloc _ _).from _) ⟨(World.grownBy_alloc W _ none).size, fun k hk hKk => Below.heap_alloc _ _ _ hk⟩ (hIa _ _ _ hi) ⟨W.heap.size, hIn _ _ hi, block_new _ _, rfl⟩)
  case body =>
    rintro l pre x a' W hl hr hi ⟨Bx, hBx, bX, rfl⟩ hlt
    exact hbody l pre x Bx W hl hr hi hBx bX hlt
end Go.Proofs.Ytedhefidfepclaa
