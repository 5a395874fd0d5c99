/- A machine in memory: its states in a row of its own, one more put behind; does a state read a byte, is its step an empty one: what the calls return. Conditions: the machine lies in memory, and there is room. -/
import Derived.Test.YtdmajbdgjjmlkaaPlc
import Derived.Test.YtdmajbdgjjmlkaaPrt
import Derived.Deep.RegionLaw
import Derived.Deep.Cut
namespace Go.Proofs.Ytdmajbdgjjmlkaa
open Go.RowKit
set_option linter.unusedVariables false
set_option linter.unusedSimpArgs false

def staV (x : Sta) : List Value := [.int .u64 x.s0, .int .u64 x.s1, .int .u64 x.s2, .int .u64 x.s3, .int .u64 (pw x.nx 0 : Nat), .int .u64 (pw x.nx 1 : Nat), .int .u64 (pw x.nx 2 : Nat), .int .u64 (pw x.nx 3 : Nat), .int .u64 (pw x.nx 4 : Nat)]
def stasV : List Sta → List Value
  | [] => []
  | x :: l => staV x ++ stasV l
theorem stasV_len : ∀ l : List Sta, (stasV l).length = l.length * 9
  | [] => rfl
  | x :: l => by rw [stasV, List.length_append, stasV_len l, List.length_cons, show (staV x).length = 9 from rfl]; omega
theorem stasV_app : ∀ l m : List Sta, stasV (l ++ m) = stasV l ++ stasV m
  | [], m => rfl
  | x :: l, m => by rw [List.cons_append, stasV, stasV_app l m, stasV, List.append_assoc]
theorem stasV_at : ∀ (l : List Sta) (i : Nat) (x : Sta) (h : l[i]? = some x) (j : Nat) (u : Value), (staV x)[j]? = some u → (stasV l)[i * 9 + j]? = some u
  | [], i, x, h, _, _, _ => by simp at h
  | y :: l, 0, x, h, j, u, hu => by
    simp at h
    subst h
    have hj : j < (staV y).length := (List.getElem?_eq_some_iff.1 hu).1
    rw [stasV, List.getElem?_append_left (by rw [Nat.zero_mul, Nat.zero_add]; exact hj), Nat.zero_mul, Nat.zero_add]
    exact hu
  | y :: l, i + 1, x, h, j, u, hu => by
    rw [stasV, List.getElem?_append_right (by rw [show (staV y).length = 9 from rfl]; omega), show (staV y).length = 9 from rfl, show (i + 1) * 9 + j - 9 = i * 9 + j by omega]
    exact stasV_at l i x (by simpa using h) j u hu
/-- block p is the machine, whose row lies from n0 on -/
structure IsM (n0 p : Nat) (M : Mac) (w : World) : Prop where
  base : n0 ≤ p
  cells : ∃ v, w.heap[p]? = some (.cells #[v, .int .u64 (pw M.beg 0 : Nat), .int .u64 (pw M.beg 1 : Nat), .int .u64 (pw M.beg 2 : Nat), .int .u64 (pw M.beg 3 : Nat), .int .u64 (pw M.beg 4 : Nat)] 62 (0, 0)) ∧ w.ownsRow n0 59 9 v M.sts.length (stasV M.sts)
/-- the other blocks are as they were -/
structure Oth (n0 p : Nat) (w w' : World) : Prop where
  below : Below n0 w w'
  old : ∀ k o, w.heap[k]? = some o → k ≠ p → (∀ c fz, o ≠ .cells c 59 fz) → w'.heap[k]? = some o
theorem block_lt' {w : World} {b : Nat} {o : Obj} (h : w.heap[b]? = some o) : b < w.heap.size := (Array.getElem?_eq_some_iff.1 h).1
theorem Oth.refl (n0 p : Nat) (w : World) : Oth n0 p w w := ⟨Below.refl _ _, fun _ _ h _ _ => h⟩
theorem Oth.trans {n0 p : Nat} {a b c : World} (h : Oth n0 p a b) (k : Oth n0 p b c) : Oth n0 p a c :=
  ⟨h.below.trans k.below, fun i o hi h1 h2 => k.old i o (h.old i o hi h1 h2) h1 h2⟩
theorem Oth.of_below {n0 p : Nat} {w w' : World} (h : Below w.heap.size w w') (hn : n0 ≤ w.heap.size) : Oth n0 p w w' :=
  ⟨h.mono hn, fun k o hk _ _ => (h.block k (block_lt' hk)).trans hk⟩
theorem Oth.put {n0 p : Nat} {a w : World} (h : Oth n0 p a w) (hp : n0 ≤ p) (i : Nat) (v : Value) : Oth n0 p a (w.setCell ⟨p, i, none⟩ v) :=
  ⟨h.below.setCell (p := ⟨p, i, none⟩) hp v, fun k o hk h1 h2 => by rw [Below.heap_setCell _ _ _ _ h1]; exact h.old k o hk h1 h2⟩
theorem IsM.lt {n0 p : Nat} {M : Mac} {w : World} (h : IsM n0 p M w) : p < w.heap.size := by
  obtain ⟨_, v, hc, _⟩ := h
  exact block_lt' hc
theorem IsM.of_below {n0 p : Nat} {M : Mac} {w w' : World} (h : IsM n0 p M w) (hb : Below w.heap.size w w') : IsM n0 p M w' := by
  obtain ⟨h1, v, hc, ho⟩ := h
  have g : w.grownBy w' none := ⟨hb.os, hb.tape, hb.output, hb.size, fun i hi _ => hb.block i hi⟩
  exact ⟨h1, v, (hb.block p (block_lt' hc)).trans hc, ho.kept g (by cases v.ownBlock <;> simp)⟩
theorem own_ne' {n0 : Nat} {e : TypeId} {sz : Nat} {v : Value} {n : Nat} {xs : List Value} {w : World} {k : Nat} {o : Obj} (h : w.ownsRow n0 e sz v n xs) (hk : w.heap[k]? = some o) (ho : ∀ c fz, o ≠ .cells c e fz) : v.ownBlock ≠ some k := by
  rcases h.2 with ⟨rfl, _⟩ | ⟨g, cap, cur, rfl, _, hg, _⟩
  · simp [Value.ownBlock]
  · intro e2
    simp [Value.ownBlock] at e2
    subst e2
    rw [hg] at hk
    exact ho cur (0, 0) (Option.some.inj hk).symm
theorem own_slice' {n0 : Nat} {e : TypeId} {sz : Nat} {v : Value} {n : Nat} {xs : List Value} {w : World} (h : w.ownsRow n0 e sz v n xs) : ∃ ao cap, v = .slice ao n cap := by
  rcases h.2 with ⟨rfl, rfl⟩ | ⟨g, cap, cur, rfl, _⟩
  · exact ⟨none, 0, rfl⟩
  · exact ⟨_, _, rfl⟩
theorem Try.info59 : (Try.prog.info? 59).map (fun i => (i.size)) = some 9 := by kernel_rfl
theorem set1' {w : World} {g i : Nat} {cs : Array Value} {t : TypeId} {fr : Nat × Nat} (h : w.heap[g]? = some (.cells cs t fr)) (v : Value) : (w.setCell ⟨g, i, none⟩ v).heap[g]? = some (.cells (cs.setIfInBounds i v) t fr) := by
  show (w.heap.modify g _)[g]? = _
  rw [Array.getElem?_modify, if_pos rfl, h]
  rfl
/-- a new row in the machine's block -/
theorem IsM.put {n0 p : Nat} {M : Mac} {w w' : World} {v v' : Value} {K : List Sta} (hn : n0 ≤ p) (hc : w.heap[p]? = some (.cells #[v, .int .u64 (pw M.beg 0 : Nat), .int .u64 (pw M.beg 1 : Nat), .int .u64 (pw M.beg 2 : Nat), .int .u64 (pw M.beg 3 : Nat), .int .u64 (pw M.beg 4 : Nat)] 62 (0, 0)))
    (ho : w.ownsRow n0 59 9 v M.sts.length (stasV M.sts)) (ho' : w'.ownsRow n0 59 9 v' K.length (stasV K)) (hg : w.grownBy w' v.ownBlock) (hs : n0 ≤ w.heap.size) :
    IsM n0 p ⟨K, M.beg⟩ (w'.setCell ⟨p, 0, none⟩ v') ∧ Oth n0 p w (w'.setCell ⟨p, 0, none⟩ v') := by
  have hne : v.ownBlock ≠ some p := own_ne' ho hc (by intro c fz e; cases e)
  have hc' : w'.heap[p]? = some (.cells #[v, .int .u64 (pw M.beg 0 : Nat), .int .u64 (pw M.beg 1 : Nat), .int .u64 (pw M.beg 2 : Nat), .int .u64 (pw M.beg 3 : Nat), .int .u64 (pw M.beg 4 : Nat)] 62 (0, 0)) := by
    rw [hg.block p (block_lt' hc) (fun e => hne e.symm)]; exact hc
  have hne' : v'.ownBlock ≠ some p := own_ne' ho' hc' (by intro c fz e; cases e)
  have g2 : w'.grownBy (w'.setCell ⟨p, 0, none⟩ v') (some p) := ⟨rfl, rfl, rfl, by simp, fun i hi hn2 => Below.heap_setCell _ _ _ _ (fun e => hn2 (by rw [e]))⟩
  refine ⟨⟨hn, v', set1' hc' v', ho'.kept g2 (.inr (fun e => hne' e))⟩, ?_⟩
  refine Oth.put ⟨(Below.refl n0 w).grown hg hs (fun k e => (ho.lt k e).1), fun k o hk h1 h2 => ?_⟩ hn _ _
  rw [hg.block k (block_lt' hk) (fun e => own_ne' ho hk h2 e.symm)]
  exact hk
end Go.Proofs.Ytdmajbdgjjmlkaa
