/- All empty steps of a machine followed, in its own states: what the call leaves. Conditions: the machine lies in memory. -/
import Derived.Test.YtdmajbdgjjmlkaaFol
import Derived.Laws.OwnMore
namespace Go.Proofs.Ytdmajbdgjjmlkaa
open Go.RowKit
set_option linter.unusedVariables false
set_option linter.unusedSimpArgs false

def put5o (w : World) (g o P : Nat) : World := ((((w.setCell ⟨g, o, none⟩ (.int .u64 (pw P 0 : Nat))).setCell ⟨g, o + 1, none⟩ (.int .u64 (pw P 1 : Nat))).setCell ⟨g, o + 2, none⟩ (.int .u64 (pw P 2 : Nat))).setCell ⟨g, o + 3, none⟩ (.int .u64 (pw P 3 : Nat))).setCell ⟨g, o + 4, none⟩ (.int .u64 (pw P 4 : Nat))
theorem stasV_set : ∀ (l : List Sta) (i : Nat) (x : Sta) (nx : Nat), l[i]? = some x →
    (((((stasV l).set (i * 9 + 4) (.int .u64 (pw nx 0 : Nat))).set (i * 9 + 4 + 1) (.int .u64 (pw nx 1 : Nat))).set (i * 9 + 4 + 2) (.int .u64 (pw nx 2 : Nat))).set (i * 9 + 4 + 3) (.int .u64 (pw nx 3 : Nat))).set (i * 9 + 4 + 4) (.int .u64 (pw nx 4 : Nat)) = stasV (setNx l i nx)
  | [], i, x, nx, h => by simp at h
  | y :: l, 0, x, nx, h => by
    rfl
  | y :: l, i + 1, x, nx, h => by
    have ih := stasV_set l i x nx (by simpa using h)
    have e : setNx (y :: l) (i + 1) nx = y :: setNx l i nx := rfl
    rw [e, stasV, stasV, ← ih]
    have s : ∀ (xs : List Value) (k : Nat) (u : Value), (staV y ++ xs).set ((i + 1) * 9 + 4 + k) u = staV y ++ xs.set (i * 9 + 4 + k) u := fun xs k u => by
      rw [List.set_append_right _ _ (by rw [show (staV y).length = 9 from rfl]; omega), show (staV y).length = 9 from rfl, show (i + 1) * 9 + 4 + k - 9 = i * 9 + 4 + k by omega]
    have s0 := fun xs u => s xs 0 u
    simp only [Nat.add_zero] at s0
    rw [s0, s, s, s, s]
/-- the row of a machine, as it is owned -/
theorem IsM.own {n0 p : Nat} {M : Mac} {w : World} (h : IsM n0 p M w) (h0 : 0 < M.sts.length) : ∃ g cap, w.heap[p]? = some (.cells #[.slice (some ⟨g, 0, none⟩) M.sts.length cap, .int .u64 (pw M.beg 0 : Nat), .int .u64 (pw M.beg 1 : Nat), .int .u64 (pw M.beg 2 : Nat), .int .u64 (pw M.beg 3 : Nat), .int .u64 (pw M.beg 4 : Nat)] 62 (0, 0)) ∧ w.ownsRow n0 59 9 (.slice (some ⟨g, 0, none⟩) M.sts.length cap) M.sts.length (stasV M.sts) ∧ g ≠ p ∧ n0 ≤ g ∧ g < w.heap.size ∧ ∃ cs, w.heap[g]? = some (.cells cs 59 (0, 0)) := by
  obtain ⟨_, v, hc, ho⟩ := h
  have hne := own_ne' ho hc (by intro c fz e; cases e)
  have ho' := ho
  rcases ho.2 with ⟨rfl, h2⟩ | ⟨g, cap, cur, rfl, hb, hg, h3⟩
  · omega
  · exact ⟨g, cap, hc, ho', fun e => hne (by simp [Value.ownBlock, e]), hb, block_lt' hg, cur, hg⟩
/-- a state's step, put anew -/
theorem IsM.setNx {n0 p g cap : Nat} {M : Mac} {w : World} (hn : n0 ≤ p) (hc : w.heap[p]? = some (.cells #[.slice (some ⟨g, 0, none⟩) M.sts.length cap, .int .u64 (pw M.beg 0 : Nat), .int .u64 (pw M.beg 1 : Nat), .int .u64 (pw M.beg 2 : Nat), .int .u64 (pw M.beg 3 : Nat), .int .u64 (pw M.beg 4 : Nat)] 62 (0, 0)))
    (ho : w.ownsRow n0 59 9 (.slice (some ⟨g, 0, none⟩) M.sts.length cap) M.sts.length (stasV M.sts)) (hgp : g ≠ p) (hcs : ∃ cs, w.heap[g]? = some (.cells cs 59 (0, 0))) (hg0 : n0 ≤ g) (i : Nat) (x : Sta) (hx : M.sts[i]? = some x) (nx : Nat) :
    IsM n0 p ⟨Go.Proofs.Ytdmajbdgjjmlkaa.setNx M.sts i nx, M.beg⟩ (put5o w g (i * 9 + 4) nx) ∧ Oth n0 p w (put5o w g (i * 9 + 4) nx) := by
  have o1 := (ho.stored (i * 9 + 4) (.int .u64 (pw nx 0 : Nat))).1
  have o2 := (o1.stored (i * 9 + 4 + 1) (.int .u64 (pw nx 1 : Nat))).1
  have o3 := (o2.stored (i * 9 + 4 + 2) (.int .u64 (pw nx 2 : Nat))).1
  have o4 := (o3.stored (i * 9 + 4 + 3) (.int .u64 (pw nx 3 : Nat))).1
  have o5 := (o4.stored (i * 9 + 4 + 4) (.int .u64 (pw nx 4 : Nat))).1
  rw [stasV_set M.sts i x nx hx] at o5
  have other : ∀ k, k ≠ g → (put5o w g (i * 9 + 4) nx).heap[k]? = w.heap[k]? := fun k h => by
    unfold put5o
    rw [heap_setCell_other _ _ _ _ h, heap_setCell_other _ _ _ _ h, heap_setCell_other _ _ _ _ h, heap_setCell_other _ _ _ _ h, heap_setCell_other _ _ _ _ h]
  have hl : (Go.Proofs.Ytdmajbdgjjmlkaa.setNx M.sts i nx).length = M.sts.length := setNx_len _ _ _
  refine ⟨⟨hn, _, (other p (fun e => hgp e.symm)).trans hc, ?_⟩, ?_, ?_⟩
  · dsimp only
    rw [hl]; exact o5
  · unfold put5o
    exact (((((Below.refl n0 w).setCell (p := ⟨g, _, none⟩) hg0 _).setCell (p := ⟨g, _, none⟩) hg0 _).setCell (p := ⟨g, _, none⟩) hg0 _).setCell (p := ⟨g, _, none⟩) hg0 _).setCell (p := ⟨g, _, none⟩) hg0 _
  · intro k o hk h1 h2
    rw [other k (fun e => by obtain ⟨cs, hcs⟩ := hcs; rw [e, hcs] at hk; cases hk; exact h2 cs (0, 0) rfl)]
    exact hk
/-- the beginning, put anew -/
theorem IsM.setBeg {n0 p : Nat} {M : Mac} {w : World} (h : IsM n0 p M w) (P : Nat) : IsM n0 p ⟨M.sts, P⟩ (put5o w p 1 P) ∧ Oth n0 p w (put5o w p 1 P) := by
  obtain ⟨hn, v, hc, ho⟩ := h
  have hne := own_ne' ho hc (by intro c fz e; cases e)
  have s1 : ∀ {w : World} {i : Nat} {cs : Array Value} (h : w.heap[p]? = some (.cells cs 62 (0, 0))) (v : Value), (w.setCell ⟨p, i, none⟩ v).heap[p]? = some (.cells (cs.setIfInBounds i v) 62 (0, 0)) := fun h v => set1' h v
  have hc5 := s1 (i := 5) (s1 (i := 4) (s1 (i := 3) (s1 (i := 2) (s1 (i := 1) hc (.int .u64 (pw P 0 : Nat))) (.int .u64 (pw P 1 : Nat))) (.int .u64 (pw P 2 : Nat))) (.int .u64 (pw P 3 : Nat))) (.int .u64 (pw P 4 : Nat))
  have k : ∀ {w : World} {i : Nat} {u : Value} (h : w.ownsRow n0 59 9 v M.sts.length (stasV M.sts)), (w.setCell ⟨p, i, none⟩ u).ownsRow n0 59 9 v M.sts.length (stasV M.sts) := fun {w i u} h => h.kept ⟨rfl, rfl, rfl, by simp, fun j hj hn2 => Below.heap_setCell _ _ _ _ (fun e => hn2 (by rw [e]))⟩ (row := some p) (.inr hne)
  refine ⟨⟨hn, v, hc5, k (k (k (k (k ho))))⟩, ?_⟩
  unfold put5o
  exact ((((((Oth.refl n0 p w).put hn _ _).put hn _ _).put hn _ _).put hn _ _).put hn _ _)
end Go.Proofs.Ytdmajbdgjjmlkaa
