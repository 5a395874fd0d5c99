/- Pairs that came in, as they lie in memory and as they are read; what a lattice made of them is: plain words. No conditions. -/
import Derived.Test.YtbkpfiagoinoiaaLoj
namespace Go.Proofs.Ytbkpfiagoinoiaa
open Go.RowKit
set_option linter.unusedVariables false

/-- pairs lie from an address on -/
def LiesP (w : World) (ao : Option Addr) (ps : List (Int × Int)) : Prop :=
  ∀ i, i < ps.length → ∃ a, ao = some a ∧ w.cell? (a.add (i * 2)) = some (.int .i64 (ps.getD i (0, 0)).1) ∧ w.cell? ((a.add (i * 2)).add 1) = some (.int .i64 (ps.getD i (0, 0)).2) ∧ a.block < w.heap.size
theorem add_block (a : Addr) (k : Nat) : (a.add k).block = a.block := by unfold Addr.add; split <;> rfl
theorem LiesP.below {w w' : World} {ao : Option Addr} {ps : List (Int × Int)} {B : Nat} (h : LiesP w ao ps) (hb : Below B w w') (hB : w.heap.size ≤ B) : LiesP w' ao ps := fun i hi => by
  obtain ⟨a, h1, h2, h3, h4⟩ := h i hi
  refine ⟨a, h1, ?_, ?_, Nat.lt_of_lt_of_le h4 hb.size⟩
  · rw [hb.cell (p := a.add (i * 2)) (by rw [add_block]; omega)]; exact h2
  · rw [hb.cell (p := (a.add (i * 2)).add 1) (by rw [add_block, add_block]; omega)]; exact h3
theorem LiesP.nil (w : World) (ao : Option Addr) : LiesP w ao [] := fun i hi => absurd hi (by simp)

def pairAt (w : World) (a : Addr) : Option (Array Value) :=
  match w.cell? a, w.cell? (a.add 1) with
  | some u, some v => some #[u, v]
  | _, _ => none
theorem pairAt_of {w : World} {a : Addr} {u v : Value} (h1 : w.cell? a = some u) (h2 : w.cell? (a.add 1) = some v) : pairAt w a = some #[u, v] := by
  unfold pairAt; rw [h1, h2]
theorem Try.size23 : (Try.prog.info? 23).map (·.size) = some 2 := by kernel_rfl
def load23 (x : Value) : Sem Value := Instr.loadAt 23 x
theorem load23_pre (x : Value) : Instr.loadAt 23 x = load23 x := rfl
noncomputable def load23e (a : Addr) (w : World) : Result Value := (Instr.loadAt 23 (.pointer (some a))).run Try.prog w
theorem load23_run (a : Addr) (w : World) : (load23 (.pointer (some a))).run Try.prog w = rowOr (pairAt w a) (load23e a w) w := by
  cases h : pairAt w a with
  | none => rfl
  | some C =>
    unfold pairAt at h
    split at h
    · rename_i u v h1 h2
      cases h
      show (Instr.loadAt 23 (.pointer (some a))).run Try.prog w = .ok (.agg #[u, v]) w
      have hl : (loadCells a [u, v].length).run Try.prog w = .ok [u, v].toArray w := run_loadCells_list (P := Try.prog) w a [u, v] (fun j x hj => by
        match j, hj with
        | 0, hj => simp at hj; subst hj; simpa [Addr.add] using h1
        | 1, hj => simp at hj; subst hj; exact h2)
      have hagg : (isAgg 23).run Try.prog w = .ok true w := by simp
      have hs : (Go.sizeOf 23).run Try.prog w = .ok 2 w := by simp
      simp only [Instr.loadAt, Instr.sureAddr, Sem.run_bind, Sem.run_pure, Result.andThen_ok, loadVar, hagg, if_true, hs]
      simp only [List.length_cons, List.length_nil] at hl
      rw [hl]
      rfl
    · cases h

/-! ### what is made of pairs -/
def insK (ps : List (Int × Int)) (k : Nat) : Flw := (ps.take k).foldl (fun F p => setF F p.1.toNat p.2.toNat true) (fun _ _ => false)
theorem insK_zero (ps : List (Int × Int)) : insK ps 0 = fun _ _ => false := by simp [insK]
theorem insK_succ (ps : List (Int × Int)) (k : Nat) (h : k < ps.length) : insK ps (k + 1) = setF (insK ps k) (ps.getD k (0, 0)).1.toNat (ps.getD k (0, 0)).2.toNat true := by
  unfold insK
  rw [List.take_succ_eq_append_getElem h, List.foldl_append]
  simp [List.getD, List.getElem?_eq_getElem h]
def newF (ps : List (Int × Int)) : Flw := insK ps ps.length
def newG (ps : List (Int × Int)) : Flw := clo (newF ps)
def okP (n : Nat) (p : Int × Int) : Bool := hasB n p.1 && hasB n p.2
def newE (n : Int) (ps : List (Int × Int)) : Int :=
  if n < 1 ∨ 8 < n ∨ 64 < ps.length then 40
  else if ps.all (okP n.toNat) = false then 41
  else if loopB n.toNat (newG ps) = true then 42
  else if joinB n.toNat (newG ps) = false then 43
  else 0
theorem newF_at : ∀ (ps : List (Int × Int)) (i j : Nat), newF ps i j = ps.any fun p => decide (p.1.toNat = i) && decide (p.2.toNat = j) := by
  have gen : ∀ (ps : List (Int × Int)) (F : Flw) (i j : Nat), (ps.foldl (fun F p => setF F p.1.toNat p.2.toNat true) F) i j = (F i j || ps.any fun p => decide (p.1.toNat = i) && decide (p.2.toNat = j)) := by
    intro ps
    induction ps with
    | nil => intro F i j; simp
    | cons p ps ih =>
      intro F i j
      rw [List.foldl_cons, ih, List.any_cons]
      unfold setF
      by_cases h : i = p.1.toNat ∧ j = p.2.toNat
      · obtain ⟨rfl, rfl⟩ := h
        simp
      · rw [if_neg h]
        have : (decide (p.1.toNat = i) && decide (p.2.toNat = j)) = false := by
          rw [Bool.eq_false_iff]
          intro q
          simp only [Bool.and_eq_true, decide_eq_true_eq] at q
          exact h ⟨q.1.symm, q.2.symm⟩
        rw [this]; simp
  intro ps i j
  unfold newF insK
  rw [List.take_length, gen]
  simp
/-- what New returns and leaves -/
def NewPost (n : Int) (ps : List (Int × Int)) (w : World) (e : Ending) (w' : World) : Prop :=
  Below w.heap.size w w' ∧
  ((newE n ps = 0 ∧ ∃ b, w.heap.size ≤ b ∧ e = .returned (.tuple #[.pointer (some ⟨b, 0, none⟩), .int .i64 0]) ∧ IsL w' b n.toNat (newG ps)) ∨
   (newE n ps ≠ 0 ∧ e = .returned (.tuple #[.pointer none, .int .i64 (newE n ps)])))
theorem newE_size {n : Int} {ps : List (Int × Int)} (h : n < 1 ∨ 8 < n ∨ 64 < ps.length) : newE n ps = 40 := by unfold newE; rw [if_pos h]
theorem newE_pair {n : Int} {ps : List (Int × Int)} (h : ¬ (n < 1 ∨ 8 < n ∨ 64 < ps.length)) (k : Nat) (hk : k < ps.length) (hp : okP n.toNat (ps.getD k (0, 0)) = false) : newE n ps = 41 := by
  unfold newE
  rw [if_neg h, if_pos]
  rw [List.all_eq_false]
  refine ⟨ps.getD k (0, 0), ?_, by rw [hp]; decide⟩
  rw [List.getD, List.getElem?_eq_getElem hk]
  simp
theorem all_okP {n : Nat} {ps : List (Int × Int)} (h : ∀ k, k < ps.length → okP n (ps.getD k (0, 0)) = true) : ps.all (okP n) = true := by
  rw [List.all_eq_true]
  intro p hp
  obtain ⟨k, hk, rfl⟩ := List.getElem_of_mem hp
  have := h k hk
  rwa [List.getD, List.getElem?_eq_getElem hk] at this
theorem newE_rest {n : Int} {ps : List (Int × Int)} (h : ¬ (n < 1 ∨ 8 < n ∨ 64 < ps.length)) (ha : ps.all (okP n.toNat) = true) :
    newE n ps = if loopB n.toNat (newG ps) = true then 42 else if joinB n.toNat (newG ps) = false then 43 else 0 := by
  unfold newE
  rw [if_neg h, if_neg (by rw [ha]; decide)]
end Go.Proofs.Ytbkpfiagoinoiaa
