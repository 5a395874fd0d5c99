/- A range over a text's lines: what the caller owes is an invariant that does not mind the iterator's box. Conditions: the text is as long as one may be. -/
import Derived.Test.YtmclcobklcjmnaaDoorLnl
namespace Go.Proofs.YtmclcobklcjmnaaDoor
open Go.RowKit Go.Maps Go.Shelf
set_option linter.unusedVariables false
set_option linter.unusedSimpArgs false

/-- what a round keeps for the iterator: its box -/
def KeepB (b : Nat) (W W' : World) : Prop := W.heap.size ≤ W'.heap.size ∧ W'.heap[b]? = W.heap[b]?
/-- the loop's two blocks of book-keeping, from n0 on -/
structure Books (n0 : Nat) (r : Loop) (W : World) : Prop where
  defs : W.heap[n0]? = some (.deferred (some []))
  loop : W.heap[n0 + 1]? = some (.loop r)
theorem Books.grown {n0 : Nat} {r : Loop} {W W' : World} {row : Option Nat} (h : Books n0 r W) (hg : W.grownBy W' row) (hr : ∀ k, row = some k → k ≠ n0 ∧ k ≠ n0 + 1) : Books n0 r W' :=
  ⟨(hg.block _ (Array.getElem?_eq_some_iff.1 h.defs).1 (fun e => (hr _ e.symm).1 rfl)).trans h.defs, (hg.block _ (Array.getElem?_eq_some_iff.1 h.loop).1 (fun e => (hr _ e.symm).2 rfl)).trans h.loop⟩
theorem Books.put {n0 : Nat} {r : Loop} {W : World} (h : Books n0 r W) (r' : Loop) : Books n0 r' (W.putObj (n0 + 1) (.loop r')) :=
  ⟨(World.putObj_heap_other (by omega)).trans h.defs, World.putObj_heap_same (Array.getElem?_eq_some_iff.1 h.loop).1⟩
theorem Books.kept {n0 : Nat} {r : Loop} {W W' : World} (h : Books n0 r W) (hk : KeepsFrom n0 W W') : Books n0 r W' :=
  ⟨hk.same _ _ (Nat.le_refl _) h.defs rfl, hk.same _ _ (by omega) h.loop rfl⟩
theorem Books.abides {n0 : Nat} {r : Loop} {W W' : World} {row : Option Nat} {B : Nat} (h : Books n0 r W) (hg : W.grownBy W' row) (hr : ∀ k, row = some k → B ≤ k ∧ ∃ o : Obj, W.heap[k]? = some o ∧ o.isWalk = true) : Books n0 r W' :=
  h.grown hg fun k e => by
    obtain ⟨_, o, ho, hw⟩ := hr k e
    constructor
    · rintro rfl; rw [h.defs] at ho; cases ho; cases hw
    · rintro rfl; rw [h.loop] at ho; cases ho; cases hw
set_option maxHeartbeats 1000000 in
theorem range_lines {g : Operand} {sl : Nat} {assign body : Code} {Q : Exit → Act → World → Prop} {a : Act} {w : World} {b : Nat} (text : Bs) (hlen : text.length ≤ 100000)
    (hg : a.eval g = .func (.func 43) #[] #[.pointer (some ⟨b, 0, none⟩)]) (hb : w.heap[b]? = some (.cells #[.string (str text)] 9))
    (I : List Bs → World → Prop) (Ix : Code → List Bs → World → Prop) (hI : OwnFrom w.heap.size I) (hIx : ∀ c, OwnFrom w.heap.size (Ix c))
    (hIb : ∀ pre W u v, W.heap[b]? = some (.cells #[u] 9) → I pre W → I pre (W.setCell ⟨b, 0, none⟩ v)) (h0 : I [] w) (a₁ : Bs → Act)
    (hassign : ∀ (l : Nat) (t : Bs) (W : World) (K : Act → World → Prop), K (a₁ t) W →
      assign.wpIn (Fence.wide.inRound l) 7 Tryd.prog (Exit.then K (fun _ _ _ => False)) { tmps := ((#[sl] : Array Tmp).zip #[.string (str (headB t))]).foldl (fun t (p, v) => t.setIfInBounds p v) a.tmps, defers := [] } W)
    (hbody : ∀ (l : Nat) (pre : List Bs) (t : Bs) (W : World), t ≠ [] → Ahead text pre t → I pre W →
      body.wpIn (Fence.wide.inRound l) 7 Tryd.prog (ownPostG w.heap.size (KeepB b) I Ix (pre ++ [t]) W) (a₁ t) W)
    (hdone : ∀ (D : Nat) (pre : List Bs) (W : World), w.heap.size ≤ D → pre.map (fun x => (cutB 10 x).1) = linesB text → I pre W → W.heap[D]? = some (.deferred (some [])) → Q .normal { a with defers := { target := .collected D, args := #[] } :: a.defers } W)
    (hstop : ∀ (D : Nat) (c : Code) (pre : List Bs) (W : World), w.heap.size ≤ D → Ix c pre W → W.heap[D]? = some (.deferred (some [])) → c.wpIn Fence.wide 9 Tryd.prog Q { a with defers := { target := .collected D, args := #[] } :: a.defers } W) :
    (Code.rangeFunc g #[sl] assign body).wpIn Fence.wide 9 Tryd.prog Q a w := by
  have hbl : b < w.heap.size := block_lt hb
  refine wpIn_rangeFunc fun fn hfn => ?_
  obtain ⟨r, hr⟩ : ∃ r : LoopState → Option Code → Loop, r = fun st pe => { state := st, pending := pe, fn, tmps := a.tmps, params := #[sl], assign, body, defers := w.heap.size } := ⟨_, rfl⟩
  obtain ⟨W1, hW1⟩ : ∃ W1, W1 = (w.alloc (.deferred (some []))).alloc (.loop (r .ready none)) := ⟨_, rfl⟩
  have k1 : Books w.heap.size (r .ready none) W1 := by
    rw [hW1]
    refine ⟨(Below.heap_alloc _ _ _ (by simp)).trans (World.alloc_heap_new w _), ?_⟩
    have := World.alloc_heap_new (w.alloc (.deferred (some []))) (.loop (r .ready none))
    rwa [World.size_alloc] at this
  have i1 : I [] W1 := by rw [hW1]; exact hI.alloc _ (hI.alloc _ h0)
  have b1 : W1.heap[b]? = some (.cells #[.string (str text)] 9) := by rw [hW1]; exact (Below.heap_alloc _ _ _ (by simp; omega)).trans ((Below.heap_alloc _ _ _ hbl).trans hb)
  have s1 : W1.heap.size = w.heap.size + 2 := by rw [hW1]; simp
  refine ⟨w.heap.size + 1, [{ target := .collected w.heap.size, args := #[] }], W1, { target := .fn (.func 43) #[.pointer (some ⟨b, 0, none⟩)], args := #[.func (.yield (w.heap.size + 1)) #[] #[]] }, W1, 43,
    #[.func (.yield (w.heap.size + 1)) #[] #[]] ++ #[.pointer (some ⟨b, 0, none⟩)], W1, ?_, ?_, ?_, ?_, fun _ => by omega, ?_⟩
  · rw [hW1, hr]; exact run_enterLoop_outer _ _ _ _ _
  · simp only [resolve, hg]
    simp [go_sem]
  · intro f' hf'; trivial
  · have := enters_of Tryd.func43 (by kernel_rfl) rfl
    simp [invoke, go_sem, this]
  have hnw : ∀ {A : World} {row : Option Nat}, (∀ k, row = some k → W1.heap.size ≤ k ∧ ∃ o : Obj, A.heap[k]? = some o ∧ o.isWalk = true) → ∀ k, row = some k → w.heap.size ≤ k ∧ ∃ o : Obj, A.heap[k]? = some o ∧ o.isCells = false :=
    fun h k e => by obtain ⟨hB, o, ho, hw⟩ := h k e; exact ⟨by omega, o, ho, Obj.not_cells_of_walk hw⟩
  refine (lines_at 8 (by omega) (w.heap.size + 1) b text hlen (fun pre W => I pre W ∧ Books w.heap.size (r .ready none) W) (fun pre W => ∃ c, Ix c pre W ∧ Books w.heap.size (r .done (some c)) W) W1
    (fun s A B row hs hg' hrow => ⟨hI s A B row hs.1 hg' (hnw hrow), hs.2.abides hg' hrow⟩)
    (fun pre W u v hu hs => ⟨hIb pre W u v hu hs.1, hs.2.grown (grownBy_setCell' W b v) (fun k e => by cases e; omega)⟩)
    ?round b1 ⟨i1, k1⟩).mono ?behind
  case round =>
    rintro pre t W ht hah ⟨hi, hk⟩
    have hy := run_yield (P := Tryd.prog) (args := #[.string (str (headB t))]) hk.loop (by rw [hr]; rfl)
    rw [hr] at hy
    refine ⟨fn, _, assign, body, hy, roundIn_of_wpIn hfn (hassign _ t W _ ⟨_, run_beginRound hk.loop (by rw [hr]), ?_⟩)⟩
    have hlt : w.heap.size + 1 < W.heap.size := block_lt hk.loop
    have k2 := hk.put { r .ready none with state := .busy }
    have hkb : ∀ (A : World) (o : Obj), b < A.heap.size → KeepB b A (A.putObj (w.heap.size + 1) o) := fun A o hA => ⟨by simp, World.putObj_heap_other (by omega)⟩
    refine wpIn_mono (hbody _ pre t _ ht hah (hI.putObj _ hi (by omega) hk.loop rfl)) ?_
    have fin : ∀ (jump : Option Code) (W3 : World), KeepsFrom w.heap.size (W.putObj (w.heap.size + 1) (.loop { r .ready none with state := .busy })) W3 →
        W3.heap[w.heap.size + 1]? = some (.loop { r .ready none with state := .busy }) ∧
        (Instr.endRound (w.heap.size + 1) jump).run Tryd.prog W3 = .ok (.bool jump.isNone) (W3.putObj (w.heap.size + 1) (.loop (r (if jump.isNone then .ready else .done) jump))) ∧
        Books w.heap.size (r (if jump.isNone then .ready else .done) jump) (W3.putObj (w.heap.size + 1) (.loop (r (if jump.isNone then .ready else .done) jump))) := fun jump W3 h3 => by
      have k3 := k2.kept h3
      refine ⟨k3.loop, ?_, k3.put _⟩
      have := run_endRound (P := Tryd.prog) jump k3.loop
      rw [hr] at this ⊢
      exact this
    rintro e a3 W3 hp
    cases e with
    | normal =>
      obtain ⟨h3, hkp, hi3⟩ := hp
      obtain ⟨hl3, he, hB⟩ := fin none W3 h3
      refine ⟨_, _, he, .inl ⟨rfl, ⟨hI.putObj _ hi3 (by omega) hl3 rfl, hB⟩, ?_, ?_⟩⟩
      · have := h3.size; simp at this ⊢; omega
      · exact (World.putObj_heap_other (by omega)).trans (hkp.2.trans (World.putObj_heap_other (by omega)))
    | ret =>
      obtain ⟨h3, hi3⟩ := hp
      obtain ⟨hl3, he, hB⟩ := fin (some .ret) W3 h3
      exact ⟨_, _, he, .inr ⟨rfl, .ret, (hIx _).putObj _ hi3 (by omega) hl3 rfl, hB⟩⟩
    | exit id =>
      obtain ⟨h3, hi3⟩ := hp
      obtain ⟨hl3, he, hB⟩ := fin (some (.exit id)) W3 h3
      exact ⟨_, _, he, .inr ⟨rfl, .exit id, (hIx _).putObj _ hi3 (by omega) hl3 rfl, hB⟩⟩
    | goto j =>
      obtain ⟨h3, hi3⟩ := hp
      obtain ⟨hl3, he, hB⟩ := fin (some (.goto j)) W3 h3
      exact ⟨_, _, he, .inr ⟨rfl, .goto j, (hIx _).putObj _ hi3 (by omega) hl3 rfl, hB⟩⟩
    | panic ch => exact hp.elim
    | outgrown => exact hp.elim
  case behind =>
    rintro e W2 ⟨⟨v, rfl⟩, (⟨pre, hS, hi, hk⟩ | ⟨pre, c, hi, hk⟩)⟩
    · exact ⟨none, _, by have := run_endLoop (P := Tryd.prog) hk.loop (by rw [hr]; simp); rw [hr] at this; exact this, hdone _ pre _ (Nat.le_refl _) hS (hI.putObj _ hi (by omega) hk.loop rfl) ((World.putObj_heap_other (by omega)).trans hk.defs)⟩
    · exact ⟨some c, _, by have := run_endLoop (P := Tryd.prog) hk.loop (by rw [hr]; simp); rw [hr] at this; exact this, hstop _ c pre _ (Nat.le_refl _) ((hIx c).putObj _ hi (by omega) hk.loop rfl) ((World.putObj_heap_other (by omega)).trans hk.defs)⟩
end Go.Proofs.YtmclcobklcjmnaaDoor
