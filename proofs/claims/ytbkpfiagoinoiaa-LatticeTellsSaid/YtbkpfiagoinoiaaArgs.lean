/- Lists of pairs, and pairs, that came in, as they lie in memory, and how many there are. No conditions. -/
import Derived.Test.YtbkpfiagoinoiaaPrs
import Derived.ProofKit
import Derived.OpenShut
import Derived.ChangeOld
import Derived.SizedLaws
import Derived.ChangeSlices
import Derived.Deep.Slices
namespace Go.Proofs.Ytbkpfiagoinoiaa
open Go.ChangeShapes Go.WideShapes Go.ChangeAt Go.RowKit Go.Deep
set_option linter.unusedVariables false

theorem Try.own : ownKnob Try.prog.godebug = none := by kernel_rfl
theorem Try.laidOut : laidOutB Try.prog = true := by kernel_rfl
theorem Try.cellsOf3 : Try.prog.cellsOf 3 = 1 := by kernel_rfl
theorem Try.cellsOf23 : Try.prog.cellsOf 23 = 2 := by kernel_rfl
theorem Try.bytesOf23 : Try.prog.bytesOf 23 = 16 := by kernel_rfl

theorem trod_pair {H : Type} {enc : TypeId × Value → H} {w : World} {base : Nat} {spare : Nat → Bool} {held : Bool} {fuel : Nat} {c0 c1 : Value} {x : DataW H × List MemPlace}
    (h : DataW.trod enc Try.prog w base spare held fuel 23 [c0, c1] = some x) : ∃ a b : Int, c0 = .int .i64 a ∧ c1 = .int .i64 b ∧ x = (.agg [.lit (.int .i64 a), .lit (.int .i64 b)], []) := by
  cases fuel with
  | zero => simp [DataW.trod] at h
  | succ n =>
    unfold DataW.trod at h
    rw [Try.underlying23] at h
    have r2 : List.range 2 = [0, 1] := rfl
    simp [r2, Try.cellsOf3] at h
    obtain ⟨_, h⟩ := h
    cases h0 : DataW.trod enc Try.prog w base spare held n 3 [c0] with
    | none => simp [h0] at h
    | some y0 =>
      cases h1 : DataW.trod enc Try.prog w base spare held n 3 [c1] with
      | none => simp [h0, h1] at h
      | some y1 =>
        simp [h0, h1] at h
        obtain ⟨a, e0, rfl, _⟩ := DataW.trod_int Try.underlying3 h0
        obtain ⟨b, e1, rfl, _⟩ := DataW.trod_int Try.underlying3 h1
        cases e0
        cases e1
        exact ⟨a, b, rfl, rfl, by simpa using h.symm⟩

theorem pairs_of {H : Type} {enc : TypeId × Value → H} {W : World} {base : Nat} {ao : Option Addr} {len cap : Nat} {d : DataW H} {p : List MemPlace}
    (h : DataW.Trod enc Try.prog W base (fun _ => true) true 22 (.slice ao len cap) d p) :
    ∃ ps : List (Int × Int), ps.length = len ∧ LiesP W ao ps ∧ (ao = none → cap = 0) ∧ ((d = .nil ∧ len = 0) ∨ ∃ el sp, d = .slice el sp ∧ el.length = len) := by
  obtain ⟨fuel, hf⟩ := h
  rcases open_slice Try.underlying22 hf with ⟨hcs, hx⟩ | ⟨a, len', cap', m, n, D, Pl, hcs, hb, hl, hm, hmm, hx, hc⟩
  · simp [Value.cells] at hcs
    obtain ⟨rfl, rfl, rfl⟩ := hcs
    simp only [Prod.mk.injEq] at hx
    exact ⟨[], rfl, LiesP.nil _ _, fun _ => rfl, .inl ⟨hx.1, rfl⟩⟩
  · simp [Value.cells] at hcs
    obtain ⟨rfl, rfl, rfl⟩ := hcs
    simp only [if_true] at hmm
    subst hmm
    have each : ∀ i, i < len → ∃ q : Int × Int, W.cell? (a.add (i * 2)) = some (.int .i64 q.1) ∧ W.cell? ((a.add (i * 2)).add 1) = some (.int .i64 q.2) := by
      intro i hi
      obtain ⟨cs', h1, h2⟩ := hc i (by omega)
      rw [Try.cellsOf23] at h1
      obtain ⟨_, hlen, hcell⟩ := World.cells?_some h1
      match cs', hlen with
      | [v0, v1], _ =>
        obtain ⟨x, y, rfl, rfl, _⟩ := trod_pair h2
        have e0 := hcell 0 (by omega)
        have e1 := hcell 1 (by omega)
        exact ⟨(x, y), by simpa [Addr.add] using e0, by simpa using e1⟩
    obtain ⟨q, hq⟩ := choose_lt each
    refine ⟨(List.range len).map q, by simp, fun i hi => ?_, (fun h => by cases h), .inr ⟨_, _, (by simp only [Prod.mk.injEq] at hx; exact hx.1), by simp⟩⟩
    have hi' : i < len := by simpa using hi
    have e : ((List.range len).map q).getD i (0, 0) = q i := by simp [List.getD, hi']
    rw [e]
    refine ⟨a, rfl, (hq i hi').1, (hq i hi').2, ?_⟩
    have := World.block_lt_of_cell? W _ (hq i hi').1
    rwa [add_block] at this
/-- how many pairs may come in -/
theorem pairs_few {H : Type} {len : Nat} {d : DataW H} {ts : List TypeId} {ds : List (DataW H)} {j : Nat} (hsz : (DataW.weightsEach Try.prog ts ds).all (· ≤ reachBytes) = true)
    (ht : ts[j]? = some 22) (hd : ds[j]? = some d) (h : (d = .nil ∧ len = 0) ∨ ∃ el sp, d = .slice el sp ∧ el.length = len) : len ≤ 8796093022000 := by
  rcases h with ⟨_, h⟩ | ⟨el, sp, rfl, h⟩
  · omega
  · have := sized_slice hsz ht hd Try.underlying22
    rw [Try.bytesOf23] at this
    simp only [reachBytes] at this
    omega
theorem pair_of {H : Type} {enc : TypeId × Value → H} {W : World} {base b0 : Nat} {v : Value} {d : DataW H} {p : List MemPlace} (hv : Value.okWide Try.prog W .any b0 23 v)
    (h : DataW.Trod enc Try.prog W base (fun _ => true) true 23 v d p) : ∃ x y : Int, v = .agg #[.int .i64 x, .int .i64 y] := by
  simp only [Value.okWide, Try.underlying23] at hv
  obtain ⟨cs, rfl, hs, _⟩ := hv
  rw [Try.cellsOf23] at hs
  obtain ⟨fuel, hf⟩ := h
  have hl : (Value.cells (.agg cs)).toList.length = 2 := by simpa [Value.cells] using hs
  match hc : (Value.cells (.agg cs)).toList, hl with
  | [c0, c1], _ =>
    rw [hc] at hf
    obtain ⟨x, y, rfl, rfl, _⟩ := trod_pair hf
    refine ⟨x, y, ?_⟩
    have : cs.toList = [.int .i64 x, .int .i64 y] := hc
    rw [← Array.toArray_toList (xs := cs), this]
end Go.Proofs.Ytbkpfiagoinoiaa
