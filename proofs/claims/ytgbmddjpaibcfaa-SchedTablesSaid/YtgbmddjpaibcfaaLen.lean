/- How long a major frame is: what the call returns. No conditions. -/
import Derived.Test.YtgbmddjpaibcfaaItr
namespace Go.Proofs.Ytgbmddjpaibcfaa
open Go.RowKit Go.Maps Go.Shelf
set_option linter.unusedVariables false
attribute [local go_sem] Oper.semAt_some

def lenV (ws : List Wn) : Int := if okL ws then ((tks ws).sum : Nat) else 0
/-- the end of the last window that was gone through -/
def lastB (ws : List Wn) (pre : List (Ix ws)) : Nat := match pre.getLast? with | none => 0 | some x => bnd (tks ws) (x.1 + 1)
theorem lastB_snoc (ws : List Wn) (pre : List (Ix ws)) (x : Ix ws) : lastB ws (pre ++ [x]) = bnd (tks ws) (x.1 + 1) := by simp [lastB]
theorem lastB_all {ws : List Wn} {pre : List (Ix ws)} (h : pre.map (·.1) = List.range ws.length) : lastB ws pre = (tks ws).sum := by
  unfold lastB
  have h2 := congrArg List.getLast? h
  rw [List.getLast?_map, List.getLast?_range] at h2
  cases hp : pre.getLast? with
  | none =>
    rw [hp] at h2
    split at h2
    · rename_i h0
      have : ws = [] := List.eq_nil_of_length_eq_zero h0
      subst this; rfl
    · simp at h2
  | some x =>
    rw [hp] at h2
    split at h2
    · simp at h2
    · have e : x.1 = ws.length - 1 := by simpa using h2
      show bnd (tks ws) (x.1 + 1) = _
      rw [e, show ws.length - 1 + 1 = ws.length by omega, ← tks_len ws, bnd_all]
theorem KS.boxes {G : Nat → Prop} {s b n1 : Nat} {w : World} (hs : s ≤ n1) (hb : b + 2 ≤ n1) (hw : w.heap.size = n1) (W : World) (l : Nat) (o o' : Obj) (hl : w.heap.size ≤ l) (h : W.heap[l]? = some o) (hc : o.isCells = false) (hk : o.isWalk = false) : KS (fun k => (G k ∧ k < s) ∨ k = b + 1 ∨ k = b) W (W.putObj l o') := by
  have hg := grownBy_putObj' W l o'
  refine ⟨hg.size, fun k hk hK => hg.block k hk (fun e => ?_)⟩
  cases e
  omega
theorem setCell_size (w : World) (x : Addr) (v : Value) : (w.setCell x v).heap.size = w.heap.size := by simp [World.setCell]
/-- a span's cells -/
def scells (ws : List Wn) (b i : Nat) : Array Value := #[.int .i64 (ws.getD i w0).1, .int .i64 (ws.getD i w0).2.1, .int .i64 (ws.getD i w0).2.2, .int .i64 ((b + bnd (tks ws) i : Nat) : Int), .int .i64 ((b + bnd (tks ws) (i + 1) : Nat) : Int)]
/-- a range over the windows, whose variable lies in a box: what the caller owes -/
theorem range_spans {g : Operand} {s1 s2 : Nat} {assign body : Code} {Q : Exit → Act → World → Prop} {a : Act} {w : World} {bb s n1 : Nat} (G : Nat → Prop) (b : Nat) (hb : b ≤ 2199023255552) (v : Value) (ws : List Wn) (hok : okL ws) (Tm : Nat → Nat → Array Value)
    (hg : a.eval g = .func (.func 44) #[] #[.pointer (some ⟨bb + 1, 0, none⟩), .pointer (some ⟨bb, 0, none⟩)])
    (hBb : w.cell? ⟨bb + 1, 0, none⟩ = some (.int .i64 (b : Int))) (hBt : w.cell? ⟨bb, 0, none⟩ = some v) (hT : WinV (fun k => G k ∧ k < s) w v ws) (hs : s ≤ n1) (hbb : bb + 2 ≤ n1) (hw : w.heap.size = n1)
    (I : List (Ix ws) → World → Prop) (Jx : Code → List (Ix ws) → World → Prop) (hI : OwnFrom n1 I) (hIx : ∀ c, OwnFrom n1 (Jx c)) (h0 : I [] w) (hIn : ∀ pre W, I pre W → n1 ≤ W.heap.size)
    (hassign : ∀ (l : Nat) (pre : List (Ix ws)) (x : Ix ws) (W : World) (K : Act → World → Prop), I pre W →
      K { tmps := Tm x.1 W.heap.size, defers := [] } (W.alloc (.cells (scells ws b x.1) 67)) →
      assign.wpIn (Fence.wide.inRound l) 7 Try.prog (Exit.then K (fun _ _ _ => False)) { tmps := ((#[s1, s2] : Array Tmp).zip (encS ws b x.1)).foldl (fun t (p, v) => t.setIfInBounds p v) a.tmps, defers := [] } W)
    (hbody : ∀ (l : Nat) (pre : List (Ix ws)) (x : Ix ws) (Bx : Nat) (W : World), n1 ≤ l → (∃ r, W.heap[l]? = some (.loop r)) → I pre W → n1 ≤ Bx → W.heap[Bx]? = some (.cells (scells ws b x.1) 67 (0, 0)) → pre.length < ws.length →
      body.wpIn (Fence.wide.inRound l) 7 Try.prog (ownPostG n1 (KS (fun k => (G k ∧ k < s) ∨ k = bb + 1 ∨ k = bb)) I Jx (pre ++ [x]) W) { tmps := Tm x.1 Bx, defers := [] } W)
    (hdone : ∀ (D : Nat) (xs : List (Ix ws)) (W : World), n1 ≤ D → xs.map (·.1) = List.range ws.length → I xs W → W.heap[D]? = some (.deferred (some [])) → Q .normal { a with defers := { target := .collected D, args := #[] } :: a.defers } W)
    (hstop : ∀ (D : Nat) (c : Code) (pre : List (Ix ws)) (W : World), n1 ≤ D → (∃ j, pre.map (·.1) = List.range j) → Jx c pre W → W.heap[D]? = some (.deferred (some [])) → c.wpIn Fence.wide 9 Try.prog Q { a with defers := { target := .collected D, args := #[] } :: a.defers } W) :
    (Code.rangeFunc g #[s1, s2] assign body).wpIn Fence.wide 9 Try.prog Q a w := by
  refine wpIn_rangeFunc_ownH (F := Fence.wide) rfl (by omega) hg trivial (enters_of Try.func44 (by kernel_rfl) rfl)
    (spans_stops 8 (by omega) (bb + 1) bb s G b hb v ws hok w hBb hBt hT)
    KS.trans (KS.boxes hs hbb hw) (Below.refl _ _) (fun _ => rfl) I Jx (by rw [hw]; exact hI) (by rw [hw]; exact hIx) h0
    (fun x a' W => ∃ Bx, n1 ≤ Bx ∧ W.heap[Bx]? = some (.cells (scells ws b x.1) 67 (0, 0)) ∧ a' = { tmps := Tm x.1 Bx, defers := [] })
    ?hAx ?assign ?body (by rw [hw]; exact hdone) (by rw [hw]; exact hstop)
  case hAx =>
    intro x a' _ W W' row h hg hr
    obtain ⟨Bx, h1, h2, h3⟩ := h
    refine ⟨Bx, h1, ?_, h3⟩
    rw [hg.block Bx (block_lt h2) (fun e => ?_)]; exact h2
    obtain ⟨_, o, ho, hc⟩ := hr _ e.symm
    rw [h2] at ho; cases ho; cases hc
  case assign =>
    rintro l pre x W K hi hK
    exact hassign l pre x W K hi (hK _ _ ((KeepsOthers.alloc _ _).from _) ⟨(World.grownBy_alloc W _ none).size, fun k hk hKk => Below.heap_alloc _ _ _ hk⟩ (hI _ _ _ none hi (World.grownBy_alloc W _ none) (fun r e => by cases e)) ⟨W.heap.size, hIn _ _ hi, block_new _ _, rfl⟩)
  case body =>
    rintro l pre x a' W hl hr hi ⟨Bx, hBx, bX, rfl⟩ hlt
    rw [hw] at hl ⊢
    exact hbody l pre x Bx W hl hr hi hBx bX hlt
set_option maxRecDepth 100000 in
set_option maxHeartbeats 4000000 in
theorem len_any (w : World) (G : Nat → Prop) (v : Value) (ws : List Wn) (ht : WinV G w v ws) :
    Calls Try.prog 8 #[v] w fun e w' => e = .returned (.tuple #[.int .i64 (lenV ws), .int .i64 (chkE ws)]) ∧ Below w.heap.size w w' := by
  have k := check_any w G v ws ht
  obtain ⟨q, n, cap0, rfl⟩ : ∃ q n cap, v = .slice q n cap := by obtain ⟨q, cap, e, _⟩ := ht; exact ⟨_, _, _, e⟩
  by_cases hok : okL ws
  · have e1 : chkE ws = 0 := if_pos hok
    have e2 : lenV ws = ((tks ws).sum : Nat) := if_pos hok
    rw [e1] at k
    rw [e1, e2]
    clear e1 e2
    refine (callsIn_wide (n := 9)).1 ?_
    refine callsIn_of_wp_marks Try.func8 rfl trivial ?_ rfl
    simp only [Try.ntmps8, List.size_toArray, List.length_cons, List.length_nil, Nat.reduceAdd, Nat.reduceSub, Array.replicate_succ, Array.replicate_zero, List.push_toArray, List.append_toArray, List.nil_append, List.cons_append]
    gi_wp2_with (first
      | (refine ⟨trivial, ?_⟩; gi_at_call 10; refine (callsIn_wide.2 k).mono ?_; rintro e w' ⟨rfl, hb⟩)
      | (refine ⟨trivial, ?_⟩; gi_at_call 32; refine (spans_any _ _ _ _ _ _).mono ?_; rintro e w2 ⟨rfl, rfl⟩))
    obtain ⟨S, hS⟩ : ∃ S, S = w'.heap.size := ⟨_, rfl⟩
    obtain ⟨b0, hb00⟩ : ∃ b0 : Nat, b0 = 0 := ⟨_, rfl⟩
    obtain ⟨s0, hs0⟩ : ∃ s0, s0 = w.heap.size := ⟨_, rfl⟩
    obtain ⟨W0, hW0⟩ : ∃ W0, W0 = ((w'.alloc (.cells #[.int .i64 0] 3)).alloc (.cells #[.slice q n cap0] 22)).alloc (.cells #[.int .i64 0] 3) := ⟨_, rfl⟩
    rw [← hW0, ← hS]
    have hsz : W0.heap.size = S + 3 := by rw [hW0, hS]; simp
    have bR : Boxed W0 S 3 (.int .i64 0) := by rw [hW0, hS]; exact ((Boxed.new w' 3 _).alloc _).alloc _
    have c1 : W0.cell? ⟨S + 1, 0, none⟩ = some (.slice q n cap0) := by
      have := ((Boxed.new (w'.alloc (.cells #[.int .i64 0] 3)) 22 (.slice q n cap0)).alloc (.cells #[.int .i64 0] 3)).cell
      rw [World.size_alloc, ← hS, ← hW0] at this; exact this
    have c2 : W0.cell? ⟨S + 1 + 1, 0, none⟩ = some (.int .i64 (b0 : Int)) := by
      rw [hb00]
      have := (Boxed.new ((w'.alloc (.cells #[.int .i64 0] 3)).alloc (.cells #[.slice q n cap0] 22)) 3 (.int .i64 0)).cell
      rw [World.size_alloc, World.size_alloc, ← hS, ← hW0] at this; exact this
    have hsS : s0 ≤ S := by rw [hs0, hS]; exact hb.size
    have hb0 : Below s0 w W0 := by
      rw [hW0, hs0]
      exact ((hb.alloc hb.size _).alloc (by have := hb.size; simp; omega) _).alloc (by have := hb.size; simp; omega) _
    have hT0 : WinV (fun k => G k ∧ k < s0) W0 (.slice q n cap0) ws := by
      have := ht.lt (s := s0) (by omega)
      rw [hs0] at hb0
      exact this.below hb0
    have HS := Lib.hid (And.intro hS (And.intro hs0 (And.intro hb0 hb00)))
    have hb1 : b0 ≤ 2199023255552 := by omega
    clear hW0 hb k ht hS hb00
    refine range_spans (bb := S + 1) (s := s0) (n1 := S + 3) G b0 hb1 (.slice q n cap0) ws hok
      (fun i Bx => #[.slice q n cap0, undef, .int .i64 0, .int .i64 0, .int .i64 0, .pointer (some ⟨S, 0, none⟩), undef, .pointer (some ⟨Bx, 0, none⟩), .slice q n cap0, .int .i64 0, .int .i64 0, .bool false, undef, .slice q n cap0,
        .func (.func 44) #[] #[.pointer (some ⟨S + 1 + 1, 0, none⟩), .pointer (some ⟨S + 1, 0, none⟩)], .int .i64 (i : Int), .agg (scells ws b0 i), undef, undef, undef])
      rfl c2 c1 hT0 (by omega) (by omega) hsz
      (fun pre W => (Boxed W S 3 (.int .i64 (lastB ws pre : Nat)) ∧ S + 3 ≤ W.heap.size) ∧ Below s0 w W) (fun c pre W => False) ?hI (fun _ _ _ _ _ h _ _ => h) ⟨⟨bR, by omega⟩, hb0⟩ (fun _ _ h => h.1.2) ?assign ?body ?done (fun _ _ _ _ _ _ h _ => h.elim)
    case hI =>
      refine OwnFrom.and (fun pre W W' row h hg hr => ⟨h.1.kept hg ?_, Nat.le_trans h.2 hg.size⟩) ?_
      · intro e; have := (hr _ e.symm).1; omega
      · rw [hs0]; exact ownFrom_below (by omega) (by omega)
    case assign =>
      rintro l pre x W K hi hK
      have HK := Lib.hid hK
      clear hi hK hs0
      dsimp only [encS]
      gi_wp2
      exact HK.out
    case body =>
      rintro l pre x Bx W hl ⟨r, hr⟩ hi hBx bX hlt
      have x4 : W.cell? ⟨Bx, 4, none⟩ = some (.int .i64 ((b0 + bnd (tks ws) (x.1 + 1) : Nat) : Int)) := by rw [cell_of_row _ _ _ _ _ _ bX]; rfl
      have c5 := hi.1.1.cell
      have f5 := hi.1.1.frozen
      have HI := Lib.hid hi
      clear hi hs0 hb0
      gi_wp2
      refine ⟨(KeepsOthers.setCell _ _ _).from _, ⟨by rw [setCell_size]; exact Nat.le_refl _, fun k hk hK => block_setCell_other (show k ≠ S by omega)⟩, ⟨⟨?_, by rw [setCell_size]; exact HI.out.1.2⟩, ?_⟩⟩
      · have h1 := HI.out.1.1.set (.int .i64 ((b0 : Int) + (bnd (tks ws) (x.1 + 1) : Nat)))
        have h2 : (b0 : Int) + (bnd (tks ws) (x.1 + 1) : Nat) = (lastB ws (pre ++ [x]) : Nat) := by rw [lastB_snoc, HS.out.2.2.2]; simp
        rw [h2] at h1 ⊢
        exact h1
      · exact HI.out.2.trans ((Below.refl _ W).setCell (p := ⟨S, 0, none⟩) hsS _)
    case done =>
      rintro D ys W hD hall hi hK
      have c5 := hi.1.1.cell
      have HI := Lib.hid (And.intro hi (And.intro hall hD))
      clear hi hall hD hs0 hb0
      gi_wp2
      refine ⟨by simp, .inl ⟨_, _, rfl, run_takeDeferred hK, ?_⟩⟩
      refine ⟨_, results_tmp2 rfl _ _ _, by rw [← lastB_all HI.out.2.1]; rfl, ?_⟩
      obtain ⟨hS, hs0, hb0, hb00⟩ := HS.out
      rw [← hs0]
      exact HI.out.1.2.trans (belowK_b (w := W0) (by omega) _ D _ _ (by rw [hsz]; exact HI.out.2.2) hK rfl rfl)
  · have e1 : chkE ws = 130 := if_neg hok
    have e2 : lenV ws = 0 := if_neg hok
    rw [e1] at k
    rw [e1, e2]
    clear e1 e2 ht hok
    go_enter Try.func8, Try.ntmps8
    go_wp2_with (go_at_call 10; refine k.mono ?_; rintro e w' ⟨rfl, hb⟩)
    go_ret2
    exact ⟨rfl, hb⟩
end Go.Proofs.Ytgbmddjpaibcfaa
