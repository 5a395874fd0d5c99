/- When a window comes next: what the call returns. No conditions. -/
import Derived.ScopeJumps
import Derived.Test.YtgbmddjpaibcfaaAt
namespace Go.Proofs.Ytgbmddjpaibcfaa
open Go.RowKit Go.Maps Go.Shelf
set_option linter.unusedVariables false
set_option linter.unusedSimpArgs false
attribute [local go_sem] Oper.semAt_some

theorem wpIn_scope_jumps {n : Nat} {P : Program} {a : Act} {w : World} {Q : Exit → Act → World → Prop} {c rest : Code} (l : Nat) (J : Act → World → Prop) (μ : Act → World → Nat) (hf : findLabel c l = some rest)
    (first : c.wpIn Fence.wide n P (Exit.jump l J Q) a w)
    (pass : ∀ a w, J a w → rest.wpIn Fence.wide n P (Exit.jump l (fun a' w' => J a' w' ∧ μ a' w' < μ a w) Q) a w) : (Code.scope c).wpIn Fence.wide n P Q a w :=
  wpIn_wide.2 (wp_scope_jumps l J μ hf (wpIn_wide.1 first) fun a w h => wpIn_wide.1 (pass a w h))

/-- is window i the one that is sought, in the major frame that begins at b? -/
def hitB (ws : List Wn) (kd ix : Int) (F b i : Nat) : Bool := isB (ws.getD i w0).1 (ws.getD i w0).2.1 kd ix && decide (F ≤ b + bnd (tks ws) i)
def nextN (ws : List Wn) (kd ix : Int) (F : Nat) : Int × Int :=
  match (List.range ws.length).find? (hitB ws kd ix F (F - F % lenN ws)) with
  | some i => (((F - F % lenN ws + bnd (tks ws) i : Nat) : Int), 0)
  | none => match (List.range ws.length).find? (hitB ws kd ix F (F - F % lenN ws + lenN ws)) with
    | some i => (((F - F % lenN ws + lenN ws + bnd (tks ws) i : Nat) : Int), 0)
    | none => (0, 130)
theorem find_stop {ws : List Wn} {pre : List (Ix ws)} {x : Ix ws} {j : Nat} {p : Nat → Bool} (h : (pre ++ [x]).map (·.1) = List.range j) (hp : ∀ y ∈ pre, p y.1 = false) (hx : p x.1 = true) : (List.range ws.length).find? p = some x.1 := by
  have hl := congrArg List.length h
  rw [List.length_map, List.length_append, List.length_singleton, List.length_range] at hl
  rw [List.map_append, ← hl, List.range_succ] at h
  obtain ⟨e1, e2⟩ := List.append_inj' h rfl
  have e3 : x.1 = pre.length := by simpa using e2
  rw [List.find?_range_eq_some]
  refine ⟨hx, List.mem_range.2 x.2, fun k hk => ?_⟩
  have hm : k ∈ pre.map (·.1) := by rw [e1, List.mem_range]; omega
  obtain ⟨y, hy, e4⟩ := List.mem_map.1 hm
  have := hp y hy
  rw [show y.1 = k from e4] at this
  simp [this]
theorem find_done {ws : List Wn} {ys : List (Ix ws)} {p : Nat → Bool} (h : ys.map (·.1) = List.range ws.length) (hp : ∀ y ∈ ys, p y.1 = false) : (List.range ws.length).find? p = none := by
  rw [List.find?_eq_none]
  intro k hk
  rw [← h] at hk
  obtain ⟨y, hy, e4⟩ := List.mem_map.1 hk
  have := hp y hy
  rw [show y.1 = k from e4] at this
  simp [this]
def FiveB (W : World) (s0 : Nat) (kd ix F : Int) : Prop := Boxed W s0 3 (.int .i64 kd) ∧ Boxed W (s0 + 1) 3 (.int .i64 ix) ∧ Boxed W (s0 + 1 + 1) 3 (.int .i64 F) ∧ Boxed W (s0 + 1 + 1 + 1) 3 (.int .i64 0) ∧ Boxed W (s0 + 1 + 1 + 1 + 1) 25 (.int .i64 0)
theorem FiveB.keep {W W' : World} {s0 : Nat} {kd ix F : Int} (h : FiveB W s0 kd ix F) (hk : ∀ k, k < s0 + 5 → W'.heap[k]? = W.heap[k]?) : FiveB W' s0 kd ix F :=
  ⟨(hk _ (by omega)).trans h.1, (hk _ (by omega)).trans h.2.1, (hk _ (by omega)).trans h.2.2.1, (hk _ (by omega)).trans h.2.2.2.1, (hk _ (by omega)).trans h.2.2.2.2⟩
def noB : Nat → Prop := fun _ => False
def resB (s0 : Nat) : Nat → Prop := fun k => k = s0 + 1 + 1 + 1 ∨ k = s0 + 1 + 1 + 1 + 1
theorem KeepsFrom.of_belowN {W W' : World} (B : Nat) (hb : Below W.heap.size W W') : KeepsFrom B W W' := (show KeepsOthers W W' from ⟨hb.size, fun k o h ho => (hb.block k (block_lt h)).trans h⟩).from B
theorem Ch.widen {F F' : Nat → Prop} {w w' : World} (h : Ch F w w') (hF : ∀ k, F k → F' k) : Ch F' w w' := ⟨h.os, h.tape, h.output, h.size, fun k hk hn => h.block k hk (fun q => hn (hF k q))⟩
theorem results_next : Try.f16.results = #[.cell 8 3, .cell 9 25] := by kernel_rfl
/-- two scalar cells as results -/
theorem results_cc (tmps : Array Value) (w : World) (g1 g2 : Nat) (x y : Int) (h1 : tmps.getD 8 undef = .pointer (some ⟨g1, 0, none⟩)) (h2 : tmps.getD 9 undef = .pointer (some ⟨g2, 0, none⟩)) (c1 : w.cell? ⟨g1, 0, none⟩ = some (.int .i64 x)) (c2 : w.cell? ⟨g2, 0, none⟩ = some (.int .i64 y)) :
    (results Try.f16 tmps).run Try.prog w = .ok (.tuple #[.int .i64 x, .int .i64 y]) w := by
  rw [Array.getD_eq_getD_getElem?] at h1 h2
  simp only [results, results_next]
  simp [Sem.run_bind, Result.andThen, h1, h2, asAddr, go_sem, c1, c2]
def nextV (ws : List Wn) (kd ix F : Int) : Int × Int := if okL ws then (if isT F then nextN ws kd ix F.toNat else (0, 1)) else (0, 130)
set_option maxRecDepth 100000 in
set_option maxHeartbeats 4000000 in
theorem nx_yes (w : World) (G : Nat → Prop) (v : Value) (ws : List Wn) (ht : WinV G w v ws) (hok : okL ws) (kd ix : Int) (F : Nat) (hF : F ≤ 1099511627776) :
    Calls Try.prog 16 #[v, .int .i64 kd, .int .i64 ix, .int .i64 (F : Int)] w fun e w' => e = .returned (.tuple #[.int .i64 (nextN ws kd ix F).1, .int .i64 (nextN ws kd ix F).2]) ∧ Below w.heap.size w w' := by
  obtain ⟨q, n, cap0, rfl⟩ : ∃ q n cap, v = .slice q n cap := by obtain ⟨q, cap, e, _⟩ := ht; exact ⟨_, _, _, e⟩
  have hL := lenN_ok hok
  obtain ⟨L, hLe⟩ : ∃ L, L = lenN ws := ⟨_, rfl⟩
  rw [← hLe] at hL
  obtain ⟨w1, hw1⟩ : ∃ w1, w1 = ((((w.alloc (.cells #[.int .i64 kd] 3)).alloc (.cells #[.int .i64 ix] 3)).alloc (.cells #[.int .i64 (F : Int)] 3)).alloc (.cells #[.int .i64 0] 3)).alloc (.cells #[.int .i64 0] 25) := ⟨_, rfl⟩
  have hb1 : Below w.heap.size w w1 := by rw [hw1]; exact (((((Below.refl _ w).alloc (Nat.le_refl _) _).alloc (by simp) _).alloc (by simp; omega) _).alloc (by simp; omega) _).alloc (by simp; omega) _
  have k := len_any w1 G _ ws (ht.below hb1)
  have e1 : chkE ws = 0 := if_pos hok
  have e2 : lenV ws = (L : Nat) := by rw [hLe]; exact if_pos hok
  rw [e1, e2, hw1] at k
  have kf : ∀ W, Calls Try.prog 36 #[.int .i64 (F : Int)] W fun e w' => e = .returned (.bool true) ∧ W = w' := fun W => by
    have := tick_any W (F : Int)
    rw [decide_eq_true (show isT (F : Int) from ⟨by omega, by omega⟩)] at this
    exact this
  have KF := Lib.hid kf
  have HB1 := Lib.hid hb1
  have c0 : Boxed w1 w.heap.size 3 (.int .i64 kd) ∧ Boxed w1 (w.heap.size + 1) 3 (.int .i64 ix) ∧ Boxed w1 (w.heap.size + 1 + 1) 3 (.int .i64 (F : Int)) ∧ Boxed w1 (w.heap.size + 1 + 1 + 1) 3 (.int .i64 0) ∧ Boxed w1 (w.heap.size + 1 + 1 + 1 + 1) 25 (.int .i64 0) := by
    rw [hw1]
    refine ⟨((((Boxed.new w 3 _).alloc _).alloc _).alloc _).alloc _, ?_, ?_, ?_, ?_⟩
    · have := (((Boxed.new (w.alloc (.cells #[.int .i64 kd] 3)) 3 (.int .i64 ix)).alloc (.cells #[.int .i64 (F : Int)] 3)).alloc (.cells #[.int .i64 0] 3)).alloc (.cells #[.int .i64 0] 25)
      rw [World.size_alloc] at this; exact this
    · have := ((Boxed.new ((w.alloc (.cells #[.int .i64 kd] 3)).alloc (.cells #[.int .i64 ix] 3)) 3 (.int .i64 (F : Int))).alloc (.cells #[.int .i64 0] 3)).alloc (.cells #[.int .i64 0] 25)
      rw [World.size_alloc, World.size_alloc] at this; exact this
    · have := (Boxed.new (((w.alloc (.cells #[.int .i64 kd] 3)).alloc (.cells #[.int .i64 ix] 3)).alloc (.cells #[.int .i64 (F : Int)] 3)) 3 (.int .i64 0)).alloc (.cells #[.int .i64 0] 25)
      rw [World.size_alloc, World.size_alloc, World.size_alloc] at this; exact this
    · have := Boxed.new ((((w.alloc (.cells #[.int .i64 kd] 3)).alloc (.cells #[.int .i64 ix] 3)).alloc (.cells #[.int .i64 (F : Int)] 3)).alloc (.cells #[.int .i64 0] 3)) 25 (.int .i64 0)
      rw [World.size_alloc, World.size_alloc, World.size_alloc, World.size_alloc] at this; exact this
  have c1 : ∀ W, Below w1.heap.size w1 W → Boxed W w.heap.size 3 (.int .i64 kd) ∧ Boxed W (w.heap.size + 1) 3 (.int .i64 ix) ∧ Boxed W (w.heap.size + 1 + 1) 3 (.int .i64 (F : Int)) ∧ Boxed W (w.heap.size + 1 + 1 + 1) 3 (.int .i64 0) ∧ Boxed W (w.heap.size + 1 + 1 + 1 + 1) 25 (.int .i64 0) := fun W hW =>
    ⟨(hW.block _ c0.1.lt).trans c0.1, (hW.block _ c0.2.1.lt).trans c0.2.1, (hW.block _ c0.2.2.1.lt).trans c0.2.2.1, (hW.block _ c0.2.2.2.1.lt).trans c0.2.2.2.1, (hW.block _ c0.2.2.2.2.lt).trans c0.2.2.2.2⟩
  rw [hw1] at c1
  have HW := Lib.hid (And.intro hw1 (And.intro ht hLe))
  have C1 := Lib.hid c1
  obtain ⟨Q, hQ⟩ : ∃ Q, Q = F / L := ⟨_, rfl⟩
  obtain ⟨R, hR⟩ : ∃ R, R = F % L := ⟨_, rfl⟩
  have hdm : L * Q + R = F := by rw [hQ, hR]; exact Nat.div_add_mod F L
  have eN : F - F % lenN ws = F - R := by rw [← hLe, hR]
  have hR2 : R < L := by rw [hR]; exact Nat.mod_lt _ (by omega)
  obtain ⟨b, hb⟩ : ∃ b, b = F - R := ⟨_, rfl⟩
  have hb2 : b + R = F := by omega
  have q2 : IntKind.i64.wrap ((F : Int).tmod (L : Int)) = (R : Int) := by
    rw [show (F : Int).tmod (L : Int) = (R : Int) by rw [hR]; exact Int.ofNat_tmod _ _]; exact IntWalk.i64_in _ (by omega)
  have q3 : ((F : Int) % (L : Int)) = (R : Int) := by rw [hR]; exact (Int.natCast_emod _ _).symm
  have q4 : wrap64 ((F : Int) - (R : Int)) = (b : Int) := by rw [show (F : Int) - (R : Int) = (b : Int) by omega]; unfold wrap64; omega
  have n0 : ¬ (L : Int) = 0 := by omega
  have n1 : ((L : Int) == 0) = false := by simpa using n0
  rw [← hb] at eN
  have HQ := Lib.hid (And.intro eN hLe)
  obtain ⟨b2, hb2e⟩ : ∃ b2, b2 = b + L := ⟨_, rfl⟩
  clear eN hQ hR hdm e1 e2 hw1 ht c0 c1 kf hb1 hLe hb
  refine (callsIn_wide (n := 9)).1 ?_
  refine callsIn_of_wp_marks Try.func16 rfl trivial ?_ rfl
  simp only [Try.ntmps16, List.size_toArray, List.length_cons, List.length_nil, Nat.reduceAdd, Nat.reduceSub, Array.replicate_succ, Array.replicate_zero, List.push_toArray, List.append_toArray, List.nil_append, List.cons_append]
  gi_wp2
  refine wpIn_scope_jumps 0 (fun a W => ∃ (S D : Nat), a = { tmps := #[.slice q n cap0, .int .i64 kd, .int .i64 ix, .int .i64 (F : Int), undef, .pointer (some ⟨w.heap.size, 0, none⟩), .pointer (some ⟨w.heap.size + 1, 0, none⟩), .pointer (some ⟨w.heap.size + 1 + 1, 0, none⟩), .pointer (some ⟨w.heap.size + 1 + 1 + 1, 0, none⟩), .pointer (some ⟨w.heap.size + 1 + 1 + 1 + 1, 0, none⟩), .int .i64 (L : Int), .int .i64 0, .int .i64 (b2 : Int), undef, undef, .tuple #[.int .i64 (L : Int), .int .i64 0], .slice q n cap0, .tuple #[.int .i64 (L : Int), .int .i64 0], .int .i64 (L : Int), .int .i64 0, .int .i64 0, .bool false, undef, .int .i64 (F : Int), .bool true, .bool false, .int .i64 (F : Int), .int .i64 (F : Int), .int .i64 (L : Int), .int .i64 (R : Int), .int .i64 (b : Int), .slice q n cap0, .int .i64 (b : Int), .func (.func 44) #[] #[.pointer (some ⟨S + 1, 0, none⟩), .pointer (some ⟨S, 0, none⟩)], undef, undef, undef, undef, undef, undef, undef, undef, undef, undef, undef, undef, undef, undef, .int .i64 (b : Int), .int .i64 (F : Int), .bool true, .int .i64 (b : Int), .int .i64 (L : Int), .int .i64 (b2 : Int)], defers := [{ target := .collected D, args := #[] }] } ∧ w.heap.size + 5 ≤ D ∧ W.heap[D]? = some (.deferred (some [])) ∧ FiveB W w.heap.size kd ix (F : Int) ∧ Below w.heap.size w W ∧ (List.range ws.length).find? (hitB ws kd ix F b) = none) (fun _ _ => 0) (by rfl) ?first ?pass
  case first =>
    gi_wp2_with (first
      | (refine ⟨trivial, ?_⟩; gi_at_call 8; refine (callsIn_wide.2 k).mono ?_; rintro e w2 ⟨rfl, hb⟩; obtain ⟨b1, b2, b3, b4, b5⟩ := C1.out _ hb; have d3 := b3.cell; have HB2 := Lib.hid (And.intro hb (And.intro b1 (And.intro b2 (And.intro b3 (And.intro b4 b5))))); clear hb b1 b2 b3 b4 b5)
      | (refine ⟨trivial, ?_⟩; gi_at_call 36; refine (callsIn_wide.2 (KF.out _)).mono ?_; rintro e _ ⟨rfl, rfl⟩))
    refine wpIn_wide.2 ?_
    go_quiet (fail)
    gi_wp2
    rw [show (F : Int) - (R : Int) = (b : Int) by omega, q3]
    refine wpIn_label ?_
    gi_wp2_with (refine ⟨trivial, ?_⟩; gi_at_call 32; refine (spans_any _ _ _ _ _ _).mono ?_; rintro e w3 ⟨rfl, rfl⟩)
    obtain ⟨s0, hs0⟩ : ∃ s0, s0 = w.heap.size := ⟨_, rfl⟩
    obtain ⟨S, hS⟩ : ∃ S, S = w2.heap.size := ⟨_, rfl⟩
    obtain ⟨W0, hW0⟩ : ∃ W0, W0 = ((w2.drewN nq).alloc (.cells #[.slice q n cap0] 22)).alloc (.cells #[.int .i64 (b : Int)] 3) := ⟨_, rfl⟩
    obtain ⟨hw1, ht, hLx⟩ := HW.out
    clear hLx
    obtain ⟨hb2w, b1, b2', b3, b4, b5⟩ := HB2.out
    rw [← hw1] at hb2w
    have hsz1 : w1.heap.size = s0 + 5 := by rw [hw1, hs0]; simp
    have hsS : s0 + 5 ≤ S := by rw [← hsz1, hS]; exact hb2w.size
    have hszq : (w2.drewN nq).heap.size = S := hS.symm
    have hsz : W0.heap.size = S + 2 := by rw [hW0, World.size_alloc, World.size_alloc, hszq]
    have c1 : W0.cell? ⟨S, 0, none⟩ = some (.slice q n cap0) := by
      have := ((Boxed.new (w2.drewN nq) 22 (.slice q n cap0)).alloc (.cells #[.int .i64 (b : Int)] 3)).cell
      rw [hszq, ← hW0] at this; exact this
    have c2 : W0.cell? ⟨S + 1, 0, none⟩ = some (.int .i64 (b : Int)) := by
      have := (Boxed.new ((w2.drewN nq).alloc (.cells #[.slice q n cap0] 22)) 3 (.int .i64 (b : Int))).cell
      rw [World.size_alloc, hszq, ← hW0] at this; exact this
    have hb1 : Below s0 w w1 := by rw [hs0]; exact HB1.out
    have hb0 : Below s0 w W0 := by
      rw [hW0]
      exact ((below_drewN (hb1.trans (hb2w.mono (by omega))) nq).alloc (by rw [hszq]; omega) _).alloc (by simp [hszq]; omega) _
    have hF0 : Hid (FiveB W0 s0 kd ix (F : Int)) := Lib.hid (by
      rw [← hs0] at b1 b2' b3 b4 b5
      have h5 : FiveB w2 s0 kd ix (F : Int) := ⟨b1, b2', b3, b4, b5⟩
      refine h5.keep fun k hk => ?_
      rw [hW0, Below.heap_alloc _ _ _ (by simp [hszq]; omega), Below.heap_alloc _ _ _ (by rw [hszq]; omega)]
      rfl)
    have hT0 : WinV (fun k => G k ∧ k < s0) W0 (.slice q n cap0) ws := by
      have := ht.lt (s := s0) (by omega)
      rw [hs0] at hb0
      exact this.below hb0
    rw [← hW0, ← hS, ← hs0]
    have HS := Lib.hid (And.intro hs0 hb0)
    have hb40 : b ≤ 2199023255552 := by omega
    clear hW0 k hS d3 hs0 hb0 hw1 ht hb2w hsz1 HB2 C1 HW b1 b2' b3 b4 b5 hszq hb1 HB1 KF
    refine range_spans (bb := S) (s := s0) (n1 := S + 2) G b hb40 (.slice q n cap0) ws hok
      (fun i Bx => #[.slice q n cap0, .int .i64 kd, .int .i64 ix, .int .i64 (F : Int), undef, .pointer (some ⟨s0, 0, none⟩), .pointer (some ⟨s0 + 1, 0, none⟩), .pointer (some ⟨s0 + 1 + 1, 0, none⟩), .pointer (some ⟨s0 + 1 + 1 + 1, 0, none⟩), .pointer (some ⟨s0 + 1 + 1 + 1 + 1, 0, none⟩), .int .i64 (L : Int), .int .i64 0, .int .i64 (b : Int), undef, .pointer (some ⟨Bx, 0, none⟩), .tuple #[.int .i64 (L : Int), .int .i64 0], .slice q n cap0, .tuple #[.int .i64 (L : Int), .int .i64 0], .int .i64 (L : Int), .int .i64 0, .int .i64 0, .bool false, undef, .int .i64 (F : Int), .bool true, .bool false, .int .i64 (F : Int), .int .i64 (F : Int), .int .i64 (L : Int), .int .i64 (R : Int), .int .i64 (b : Int), .slice q n cap0, .int .i64 (b : Int), .func (.func 44) #[] #[.pointer (some ⟨S + 1, 0, none⟩), .pointer (some ⟨S, 0, none⟩)], .int .i64 (i : Int), .agg (scells ws b i), undef, undef, undef, undef, undef, undef, undef, undef, undef, undef, undef, undef, undef, undef, undef, undef, undef, undef])
      rfl c2 c1 hT0 (by omega) (by omega) hsz
      (fun pre W => (∀ x ∈ pre, hitB ws kd ix F b x.1 = false) ∧ Ch noB W0 W)
      (fun c pre W => (c = .ret ∧ ∃ pre' x, pre = pre' ++ [x] ∧ (∀ y ∈ pre', hitB ws kd ix F b y.1 = false) ∧ hitB ws kd ix F b x.1 = true ∧ Boxed W (s0 + 1 + 1 + 1) 3 (.int .i64 ((b + bnd (tks ws) x.1 : Nat) : Int)) ∧ Boxed W (s0 + 1 + 1 + 1 + 1) 25 (.int .i64 0)) ∧ Ch (resB s0) W0 W)
      ?hI ?hIx ⟨fun x hx => (nomatch hx), Ch.refl _ _⟩ (fun _ _ h => by rw [← hsz]; exact h.2.size) ?assign ?body ?done ?stop
    case hI =>
      exact OwnFrom.and (fun pre W W' row h hg hr => h) (own_ch hsz)
    case hIx =>
      refine fun c => OwnFrom.and (fun pre W W' row h hg hr => ?_) (own_ch hsz)
      obtain ⟨e, pre', x, h1, h2, h3, h4, h5⟩ := h
      exact ⟨e, pre', x, h1, h2, h3, h4.kept hg (fun e => by have := (hr _ e.symm).1; omega), h5.kept hg (fun e => by have := (hr _ e.symm).1; omega)⟩
    case assign =>
      rintro l pre x W K hi hK
      have HK := Lib.hid hK
      clear hi hK
      dsimp only [encS]
      gi_wp2
      exact HK.out
    case body =>
      rintro l pre x Bx W hl ⟨r, hr⟩ ⟨hpre, hch⟩ hBx bX hlt
      have hFW : FiveB W s0 kd ix (F : Int) := hF0.out.keep (fun k hk => hch.block k (by omega) (fun q => q))
      obtain ⟨k1, k2, k3, k4, k5⟩ := hFW
      obtain ⟨i, hi⟩ : ∃ i, i = x.1 := ⟨_, rfl⟩
      have hil : i < ws.length := by rw [hi]; exact x.2
      have hbi := bnd_ok hok i (Nat.le_of_lt hil)
      have hbj := bnd_ok hok (i + 1) hil
      obtain ⟨f, hf⟩ : ∃ f, f = (ws.getD i w0).1 := ⟨_, rfl⟩
      obtain ⟨d, hd⟩ : ∃ d, d = (ws.getD i w0).2.1 := ⟨_, rfl⟩
      obtain ⟨t, hT⟩ : ∃ t, t = (ws.getD i w0).2.2 := ⟨_, rfl⟩
      obtain ⟨A, hA⟩ : ∃ A, A = b + bnd (tks ws) i := ⟨_, rfl⟩
      obtain ⟨B, hB⟩ : ∃ B, B = b + bnd (tks ws) (i + 1) := ⟨_, rfl⟩
      have hA2 : A ≤ 3000000000000 := by rw [hA]; omega
      have hhit : hitB ws kd ix F b i = (isB f d kd ix && decide (F ≤ A)) := by unfold hitB; rw [hf, hd, hA]
      have eX : scells ws b x.1 = #[.int .i64 f, .int .i64 d, .int .i64 t, .int .i64 (A : Int), .int .i64 (B : Int)] := by
        unfold scells; rw [← hi, ← hf, ← hd, ← hT, ← hA, ← hB]
      rw [eX] at bX ⊢
      have kis := is_any W f d t (A : Int) (B : Int) kd ix
      have y1 := k1.cell
      have y2 := k2.cell
      have x0 : W.cell? ⟨Bx, 0, none⟩ = some (.int .i64 f) := by rw [cell_of_row _ _ _ _ _ _ bX]; rfl
      have x1 : W.cell? ⟨Bx, 1, none⟩ = some (.int .i64 d) := by rw [cell_of_row _ _ _ _ _ _ bX]; rfl
      have x2 : W.cell? ⟨Bx, 2, none⟩ = some (.int .i64 t) := by rw [cell_of_row _ _ _ _ _ _ bX]; rfl
      have x3 : W.cell? ⟨Bx, 3, none⟩ = some (.int .i64 (A : Int)) := by rw [cell_of_row _ _ _ _ _ _ bX]; rfl
      have x4 : W.cell? ⟨Bx, 4, none⟩ = some (.int .i64 (B : Int)) := by rw [cell_of_row _ _ _ _ _ _ bX]; rfl
      have HY : Hid (∀ W1, Below W.heap.size W W1 → W1.cell? ⟨Bx, 3, none⟩ = some (.int .i64 (A : Int)) ∧ W1.cell? ⟨s0 + 1 + 1, 0, none⟩ = some (.int .i64 (F : Int)) ∧ Boxed W1 (s0 + 1 + 1 + 1) 3 (.int .i64 0) ∧ Boxed W1 (s0 + 1 + 1 + 1 + 1) 25 (.int .i64 0)) := Lib.hid fun W1 hb => ⟨cell_below x3 hb, cell_below k3.cell hb, (hb.block _ k4.lt).trans k4, (hb.block _ k5.lt).trans k5⟩
      have HI := Lib.hid (And.intro hpre (And.intro hch (And.intro hi (And.intro hA hhit))))
      simp only [← hi]
      clear hpre hch k1 k2 k3 k4 k5 bX hf hd hA hB hT eX hi hr hlt hbi hbj hhit
      have hnot : ∀ W1, Below W.heap.size W W1 → hitB ws kd ix F b i = false → Hid (KeepsFrom (S + 2) W W1 ∧ KS (fun k => (G k ∧ k < s0) ∨ k = S + 1 ∨ k = S) W W1 ∧ (∀ x' ∈ pre ++ [x], hitB ws kd ix F b x'.1 = false) ∧ Ch noB W0 W1) := fun W1 hb1 hh => Lib.hid (by
        obtain ⟨hpre, hch, hi, hA, hhit⟩ := HI.out
        refine ⟨KeepsFrom.of_belowN _ hb1, ⟨hb1.size, fun k hk _ => hb1.block k hk⟩, fun y hy => ?_, hch.then_below hb1⟩
        rcases List.mem_append.1 hy with hy | hy
        · exact hpre y hy
        · rw [List.mem_singleton.1 hy, ← hi]; exact hh)
      by_cases c : isB f d kd ix = true
      · rw [c] at kis
        by_cases g : F ≤ A
        · have gI : (F : Int) ≤ (A : Int) := by omega
          have hh : hitB ws kd ix F b i = true := by rw [HI.out.2.2.2.2, c, decide_eq_true g]; rfl
          have HH := Lib.hid hh
          clear hnot c g hh
          gi_wp2_with (refine ⟨trivial, ?_⟩; gi_at_call 38; refine CallsIn.inRound l (callsIn_wide.2 (kis.mono ?_)); rintro e W1 ⟨rfl, hb1⟩; obtain ⟨z3, zF, b4, b5⟩ := HY.out W1 hb1; have z4 := b4.cell; have fz4 := b4.frozen; have z5 := b5.cell; have fz5 := b5.frozen; have HB1' := Lib.hid (And.intro hb1 (And.intro b4 b5)); clear hb1 b4 b5)
          obtain ⟨hb1, b4, b5⟩ := HB1'.out
          obtain ⟨hpre, hch, hi, hA, hhit⟩ := HI.out
          refine ⟨(KeepsFrom.of_belowN _ hb1).trans (((KeepsOthers.setCell _ _ _).trans (KeepsOthers.setCell _ _ _)).from _), ⟨rfl, pre, x, rfl, hpre, by rw [← hi]; exact HH.out, ?_, ?_⟩, (((hch.then_below hb1).widen (F' := resB s0) (fun _ q => q.elim)).setCell (p := s0 + 1 + 1 + 1) (.inl rfl) 0 _).setCell (p := s0 + 1 + 1 + 1 + 1) (.inr rfl) 0 _⟩
          · rw [← hi, ← hA]
            exact (b4.set _).other (by omega) _
          · exact Boxed.set _ (b5.other (by omega) _)
        · have gI : ¬ (F : Int) ≤ (A : Int) := by omega
          have hh : hitB ws kd ix F b i = false := by rw [HI.out.2.2.2.2, decide_eq_false g, Bool.and_false]
          have HN : ∀ W1, Below W.heap.size W W1 → _ := fun W1 hb => hnot W1 hb hh
          have HN := Lib.hid HN
          clear hnot c g hh
          gi_wp2_with (refine ⟨trivial, ?_⟩; gi_at_call 38; refine CallsIn.inRound l (callsIn_wide.2 (kis.mono ?_)); rintro e W1 ⟨rfl, hb1⟩; obtain ⟨z3, zF, b4, b5⟩ := HY.out W1 hb1; have hend := HN.out W1 hb1; clear hb1 b4 b5)
          exact hend.out
      · have c2 : isB f d kd ix = false := by simpa using c
        rw [c2] at kis
        have hh : hitB ws kd ix F b i = false := by rw [HI.out.2.2.2.2, c2]; rfl
        have HN : ∀ W1, Below W.heap.size W W1 → _ := fun W1 hb => hnot W1 hb hh
        have HN := Lib.hid HN
        clear hnot c hh
        gi_wp2_with (refine ⟨trivial, ?_⟩; gi_at_call 38; refine CallsIn.inRound l (callsIn_wide.2 (kis.mono ?_)); rintro e W1 ⟨rfl, hb1⟩; have hend := HN.out W1 hb1; clear hb1)
        exact hend.out
    case stop =>
      rintro D c pre W hD ⟨j, hj⟩ ⟨⟨rfl, pre', x, h1, h2, h3, h4, h5⟩, hch⟩ hK
      rw [h1] at hj
      have hfd := find_stop hj h2 h3
      have hb0 := HS.out.2
      have hs0 := HS.out.1
      have hbw : Below s0 w W := hb0.trans (hch.below (by omega) (fun k hk => by rcases hk with e | e <;> omega))
      have HF := Lib.hid (And.intro hD (And.intro h4 (And.intro h5 (And.intro hbw (And.intro hfd hs0)))))
      clear h1 h2 h3 h4 h5 hj hch hD hfd hb0 hs0 hbw hT0 c1 c2
      gi_wp2
      obtain ⟨hD, h4, h5, hbw, hfd, hs0⟩ := HF.out
      refine ⟨by simp, .inl ⟨_, _, rfl, run_takeDeferred hK, ?_⟩⟩
      have g1 := h4.kept (grownBy_putObj' W D (.deferred none)) (fun e => by injection e with e; omega)
      have g2 := h5.kept (grownBy_putObj' W D (.deferred none)) (fun e => by injection e with e; omega)
      have hbw2 := hbw.trans (belowK_b (w := W0) (n₀ := s0) (by omega) W D _ (.deferred none) (by rw [hsz]; exact hD) hK rfl rfl)
      refine ⟨_, results_cc _ _ (s0 + 1 + 1 + 1) (s0 + 1 + 1 + 1 + 1) _ _ rfl rfl g1.cell g2.cell, ?_, by rw [← hs0]; exact hbw2⟩
      have e : nextN ws kd ix F = (((b + bnd (tks ws) x.1 : Nat) : Int), 0) := by unfold nextN; rw [HQ.out.1, hfd]
      rw [e]
    case done =>
      rintro D ys W hD hall ⟨hpre, hch⟩ hK
      have hfd := find_done hall hpre
      have hb0 := HS.out.2
      have hFW : FiveB W s0 kd ix (F : Int) := hF0.out.keep (fun k hk => hch.block k (by omega) (fun q => q))
      have c3 := hFW.2.2.1.cell
      have hbF : (b : Int) ≤ (F : Int) := by omega
      have q5 : IntKind.i64.wrap ((b : Int) + (L : Int)) = (b2 : Int) := by rw [hb2e, IntWalk.i64_in _ (by omega)]; exact (Int.natCast_add b L).symm
      have HF := Lib.hid (And.intro hfd (And.intro (hb0.trans (hch.below (by omega) (fun k hk => hk.elim))) (And.intro hD hFW)))
      clear hpre hch hb0 hFW hD hT0 c1 c2 hb2e
      gi_wp2
      obtain ⟨h1, h2, h3, h4⟩ := HF.out
      have hs0 := HS.out.1
      subst hs0
      refine wpIn_goto ?_
      exact ⟨rfl, S, D, rfl, by omega, hK, h4, h2, h1⟩
  case pass =>
    rintro a W1 ⟨S1, D0, rfl, hD0, hK0, hFW1, hbw1, hfd1⟩
    have HP := Lib.hid (And.intro hD0 (And.intro hFW1 (And.intro hbw1 (And.intro hfd1 hb2e))))
    clear hD0 hFW1 hbw1 hfd1 hb2e k HB1 C1 KF
    gi_wp2_with (refine ⟨trivial, ?_⟩; gi_at_call 32; refine (spans_any _ _ _ _ _ _).mono ?_; rintro e w3 ⟨rfl, rfl⟩)
    obtain ⟨s0, hs0⟩ : ∃ s0, s0 = w.heap.size := ⟨_, rfl⟩
    obtain ⟨S, hS⟩ : ∃ S, S = W1.heap.size := ⟨_, rfl⟩
    obtain ⟨W0, hW0⟩ : ∃ W0, W0 = (W1.alloc (.cells #[.slice q n cap0] 22)).alloc (.cells #[.int .i64 (b2 : Int)] 3) := ⟨_, rfl⟩
    obtain ⟨hD0, hFW1, hbw1, hfd1, hb2e⟩ := HP.out
    rw [← hs0] at hD0 hFW1 hbw1
    obtain ⟨hw1, ht, hLx⟩ := HW.out
    clear hLx hw1 hfd1
    have hDS : D0 < S := by rw [hS]; exact block_lt hK0
    have hsz : W0.heap.size = S + 2 := by rw [hW0, World.size_alloc, World.size_alloc, hS]
    have c1 : W0.cell? ⟨S, 0, none⟩ = some (.slice q n cap0) := by
      have := ((Boxed.new W1 22 (.slice q n cap0)).alloc (.cells #[.int .i64 (b2 : Int)] 3)).cell
      rw [← hS, ← hW0] at this; exact this
    have c2 : W0.cell? ⟨S + 1, 0, none⟩ = some (.int .i64 (b2 : Int)) := by
      have := (Boxed.new (W1.alloc (.cells #[.slice q n cap0] 22)) 3 (.int .i64 (b2 : Int))).cell
      rw [World.size_alloc, ← hS, ← hW0] at this; exact this
    have hb0 : Below s0 w W0 := by
      rw [hW0]
      exact (hbw1.alloc (by omega) _).alloc (by simp; omega) _
    have hF0 : Hid (FiveB W0 s0 kd ix (F : Int)) := Lib.hid (hFW1.keep fun k hk => by
      rw [hW0, Below.heap_alloc _ _ _ (by simp; omega), Below.heap_alloc _ _ _ (by omega)])
    have hK00 : W0.heap[D0]? = some (.deferred (some [])) := by
      rw [hW0, Below.heap_alloc _ _ _ (by simp; omega), Below.heap_alloc _ _ _ (by omega)]; exact hK0
    have hT0 : WinV (fun k => G k ∧ k < s0) W0 (.slice q n cap0) ws := by
      have := ht.lt (s := s0) (by omega)
      rw [hs0] at hb0
      exact this.below hb0
    have hb40 : b2 ≤ 2199023255552 := by omega
    rw [← hW0, ← hS, ← hs0]
    have HS := Lib.hid (And.intro hs0 hb0)
    clear hW0 hS hs0 hb0 ht HW hFW1 hbw1 hb2e hK0
    refine range_spans (bb := S) (s := s0) (n1 := S + 2) G b2 hb40 (.slice q n cap0) ws hok
      (fun i Bx => #[.slice q n cap0, .int .i64 kd, .int .i64 ix, .int .i64 (F : Int), undef, .pointer (some ⟨s0, 0, none⟩), .pointer (some ⟨s0 + 1, 0, none⟩), .pointer (some ⟨s0 + 1 + 1, 0, none⟩), .pointer (some ⟨s0 + 1 + 1 + 1, 0, none⟩), .pointer (some ⟨s0 + 1 + 1 + 1 + 1, 0, none⟩), .int .i64 (L : Int), .int .i64 0, .int .i64 (b2 : Int), undef, .pointer (some ⟨Bx, 0, none⟩), .tuple #[.int .i64 (L : Int), .int .i64 0], .slice q n cap0, .tuple #[.int .i64 (L : Int), .int .i64 0], .int .i64 (L : Int), .int .i64 0, .int .i64 0, .bool false, undef, .int .i64 (F : Int), .bool true, .bool false, .int .i64 (F : Int), .int .i64 (F : Int), .int .i64 (L : Int), .int .i64 (R : Int), .int .i64 (b : Int), .slice q n cap0, .int .i64 (b2 : Int), .func (.func 44) #[] #[.pointer (some ⟨S + 1, 0, none⟩), .pointer (some ⟨S, 0, none⟩)], .int .i64 (i : Int), .agg (scells ws b2 i), undef, undef, undef, undef, undef, undef, undef, undef, undef, undef, undef, undef, .int .i64 (b : Int), .int .i64 (F : Int), .bool true, .int .i64 (b : Int), .int .i64 (L : Int), .int .i64 (b2 : Int)])
      rfl c2 c1 hT0 (by omega) (by omega) hsz
      (fun pre W => (∀ x ∈ pre, hitB ws kd ix F b2 x.1 = false) ∧ Ch noB W0 W)
      (fun c pre W => (c = .ret ∧ ∃ pre' x, pre = pre' ++ [x] ∧ (∀ y ∈ pre', hitB ws kd ix F b2 y.1 = false) ∧ hitB ws kd ix F b2 x.1 = true ∧ Boxed W (s0 + 1 + 1 + 1) 3 (.int .i64 ((b2 + bnd (tks ws) x.1 : Nat) : Int)) ∧ Boxed W (s0 + 1 + 1 + 1 + 1) 25 (.int .i64 0)) ∧ Ch (resB s0) W0 W)
      ?hI ?hIx ⟨fun x hx => (nomatch hx), Ch.refl _ _⟩ (fun _ _ h => by rw [← hsz]; exact h.2.size) ?assign ?body ?done ?stop
    case hI =>
      exact OwnFrom.and (fun pre W W' row h hg hr => h) (own_ch hsz)
    case hIx =>
      refine fun c => OwnFrom.and (fun pre W W' row h hg hr => ?_) (own_ch hsz)
      obtain ⟨e, pre', x, h1, h2, h3, h4, h5⟩ := h
      exact ⟨e, pre', x, h1, h2, h3, h4.kept hg (fun e => by have := (hr _ e.symm).1; omega), h5.kept hg (fun e => by have := (hr _ e.symm).1; omega)⟩
    case assign =>
      rintro l pre x W K hi hK
      have HK := Lib.hid hK
      clear hi hK
      dsimp only [encS]
      gi_wp2
      exact HK.out
    case body =>
      rintro l pre x Bx W hl ⟨r, hr⟩ ⟨hpre, hch⟩ hBx bX hlt
      have hFW : FiveB W s0 kd ix (F : Int) := hF0.out.keep (fun k hk => hch.block k (by omega) (fun q => q))
      obtain ⟨k1, k2, k3, k4, k5⟩ := hFW
      obtain ⟨i, hi⟩ : ∃ i, i = x.1 := ⟨_, rfl⟩
      have hil : i < ws.length := by rw [hi]; exact x.2
      have hbi := bnd_ok hok i (Nat.le_of_lt hil)
      have hbj := bnd_ok hok (i + 1) hil
      obtain ⟨f, hf⟩ : ∃ f, f = (ws.getD i w0).1 := ⟨_, rfl⟩
      obtain ⟨d, hd⟩ : ∃ d, d = (ws.getD i w0).2.1 := ⟨_, rfl⟩
      obtain ⟨t, hT⟩ : ∃ t, t = (ws.getD i w0).2.2 := ⟨_, rfl⟩
      obtain ⟨A, hA⟩ : ∃ A, A = b2 + bnd (tks ws) i := ⟨_, rfl⟩
      obtain ⟨B, hB⟩ : ∃ B, B = b2 + bnd (tks ws) (i + 1) := ⟨_, rfl⟩
      have hA2 : A ≤ 3000000000000 := by rw [hA]; omega
      have hhit : hitB ws kd ix F b2 i = (isB f d kd ix && decide (F ≤ A)) := by unfold hitB; rw [hf, hd, hA]
      have eX : scells ws b2 x.1 = #[.int .i64 f, .int .i64 d, .int .i64 t, .int .i64 (A : Int), .int .i64 (B : Int)] := by
        unfold scells; rw [← hi, ← hf, ← hd, ← hT, ← hA, ← hB]
      rw [eX] at bX ⊢
      have kis := is_any W f d t (A : Int) (B : Int) kd ix
      have y1 := k1.cell
      have y2 := k2.cell
      have x0 : W.cell? ⟨Bx, 0, none⟩ = some (.int .i64 f) := by rw [cell_of_row _ _ _ _ _ _ bX]; rfl
      have x1 : W.cell? ⟨Bx, 1, none⟩ = some (.int .i64 d) := by rw [cell_of_row _ _ _ _ _ _ bX]; rfl
      have x2 : W.cell? ⟨Bx, 2, none⟩ = some (.int .i64 t) := by rw [cell_of_row _ _ _ _ _ _ bX]; rfl
      have x3 : W.cell? ⟨Bx, 3, none⟩ = some (.int .i64 (A : Int)) := by rw [cell_of_row _ _ _ _ _ _ bX]; rfl
      have x4 : W.cell? ⟨Bx, 4, none⟩ = some (.int .i64 (B : Int)) := by rw [cell_of_row _ _ _ _ _ _ bX]; rfl
      have HY : Hid (∀ W1, Below W.heap.size W W1 → W1.cell? ⟨Bx, 3, none⟩ = some (.int .i64 (A : Int)) ∧ W1.cell? ⟨s0 + 1 + 1, 0, none⟩ = some (.int .i64 (F : Int)) ∧ Boxed W1 (s0 + 1 + 1 + 1) 3 (.int .i64 0) ∧ Boxed W1 (s0 + 1 + 1 + 1 + 1) 25 (.int .i64 0)) := Lib.hid fun W1 hb => ⟨cell_below x3 hb, cell_below k3.cell hb, (hb.block _ k4.lt).trans k4, (hb.block _ k5.lt).trans k5⟩
      have HI := Lib.hid (And.intro hpre (And.intro hch (And.intro hi (And.intro hA hhit))))
      simp only [← hi]
      clear hpre hch k1 k2 k3 k4 k5 bX hf hd hA hB hT eX hi hr hlt hbi hbj hhit
      have hnot : ∀ W1, Below W.heap.size W W1 → hitB ws kd ix F b2 i = false → Hid (KeepsFrom (S + 2) W W1 ∧ KS (fun k => (G k ∧ k < s0) ∨ k = S + 1 ∨ k = S) W W1 ∧ (∀ x' ∈ pre ++ [x], hitB ws kd ix F b2 x'.1 = false) ∧ Ch noB W0 W1) := fun W1 hb1 hh => Lib.hid (by
        obtain ⟨hpre, hch, hi, hA, hhit⟩ := HI.out
        refine ⟨KeepsFrom.of_belowN _ hb1, ⟨hb1.size, fun k hk _ => hb1.block k hk⟩, fun y hy => ?_, hch.then_below hb1⟩
        rcases List.mem_append.1 hy with hy | hy
        · exact hpre y hy
        · rw [List.mem_singleton.1 hy, ← hi]; exact hh)
      by_cases c : isB f d kd ix = true
      · rw [c] at kis
        by_cases g : F ≤ A
        · have gI : (F : Int) ≤ (A : Int) := by omega
          have hh : hitB ws kd ix F b2 i = true := by rw [HI.out.2.2.2.2, c, decide_eq_true g]; rfl
          have HH := Lib.hid hh
          clear hnot c g hh
          gi_wp2_with (refine ⟨trivial, ?_⟩; gi_at_call 38; refine CallsIn.inRound l (callsIn_wide.2 (kis.mono ?_)); rintro e W1 ⟨rfl, hb1⟩; obtain ⟨z3, zF, b4, b5⟩ := HY.out W1 hb1; have z4 := b4.cell; have fz4 := b4.frozen; have z5 := b5.cell; have fz5 := b5.frozen; have HB1' := Lib.hid (And.intro hb1 (And.intro b4 b5)); clear hb1 b4 b5)
          obtain ⟨hb1, b4, b5⟩ := HB1'.out
          obtain ⟨hpre, hch, hi, hA, hhit⟩ := HI.out
          refine ⟨(KeepsFrom.of_belowN _ hb1).trans (((KeepsOthers.setCell _ _ _).trans (KeepsOthers.setCell _ _ _)).from _), ⟨rfl, pre, x, rfl, hpre, by rw [← hi]; exact HH.out, ?_, ?_⟩, (((hch.then_below hb1).widen (F' := resB s0) (fun _ q => q.elim)).setCell (p := s0 + 1 + 1 + 1) (.inl rfl) 0 _).setCell (p := s0 + 1 + 1 + 1 + 1) (.inr rfl) 0 _⟩
          · rw [← hi, ← hA]
            exact (b4.set _).other (by omega) _
          · exact Boxed.set _ (b5.other (by omega) _)
        · have gI : ¬ (F : Int) ≤ (A : Int) := by omega
          have hh : hitB ws kd ix F b2 i = false := by rw [HI.out.2.2.2.2, decide_eq_false g, Bool.and_false]
          have HN : ∀ W1, Below W.heap.size W W1 → _ := fun W1 hb => hnot W1 hb hh
          have HN := Lib.hid HN
          clear hnot c g hh
          gi_wp2_with (refine ⟨trivial, ?_⟩; gi_at_call 38; refine CallsIn.inRound l (callsIn_wide.2 (kis.mono ?_)); rintro e W1 ⟨rfl, hb1⟩; obtain ⟨z3, zF, b4, b5⟩ := HY.out W1 hb1; have hend := HN.out W1 hb1; clear hb1 b4 b5)
          exact hend.out
      · have c2 : isB f d kd ix = false := by simpa using c
        rw [c2] at kis
        have hh : hitB ws kd ix F b2 i = false := by rw [HI.out.2.2.2.2, c2]; rfl
        have HN : ∀ W1, Below W.heap.size W W1 → _ := fun W1 hb => hnot W1 hb hh
        have HN := Lib.hid HN
        clear hnot c hh
        gi_wp2_with (refine ⟨trivial, ?_⟩; gi_at_call 38; refine CallsIn.inRound l (callsIn_wide.2 (kis.mono ?_)); rintro e W1 ⟨rfl, hb1⟩; have hend := HN.out W1 hb1; clear hb1)
        exact hend.out
    case stop =>
      rintro D c pre W hD ⟨j, hj⟩ ⟨⟨rfl, pre', x, h1, h2, h3, h4, h5⟩, hch⟩ hK
      rw [h1] at hj
      have hfd := find_stop hj h2 h3
      have hb0 := HS.out.2
      have hKW : W.heap[D0]? = some (.deferred (some [])) := (hch.block D0 (by omega) (fun q => by rcases q with e | e <;> omega)).trans hK00
      have hDne : D0 ≠ D := by omega
      have HF2 := Lib.hid (And.intro hKW hDne)
      clear hKW hDne
      have hs0 := HS.out.1
      have hbw : Below s0 w W := hb0.trans (hch.below (by omega) (fun k hk => by rcases hk with e | e <;> omega))
      have HF := Lib.hid (And.intro hD (And.intro h4 (And.intro h5 (And.intro hbw (And.intro hfd hs0)))))
      clear h1 h2 h3 h4 h5 hj hch hD hfd hb0 hs0 hbw hT0 c1 c2
      gi_wp2
      obtain ⟨hD, h4, h5, hbw, hfd, hs0⟩ := HF.out
      obtain ⟨hKW, hDne⟩ := HF2.out
      refine ⟨by simp, .inl ⟨_, _, rfl, run_takeDeferred hK, ?_⟩⟩
      have hK2 : (W.putObj D (.deferred none)).heap[D0]? = some (.deferred (some [])) := ((grownBy_putObj' W D (.deferred none)).block D0 (block_lt hKW) (fun e => hDne (by injection e))).trans hKW
      refine ⟨by simp, .inl ⟨_, _, rfl, run_takeDeferred hK2, ?_⟩⟩
      have g1 := (h4.kept (grownBy_putObj' W D (.deferred none)) (fun e => by injection e with e; omega)).kept (grownBy_putObj' (W.putObj D (.deferred none)) D0 (.deferred none)) (fun e => by injection e with e; omega)
      have g2 := (h5.kept (grownBy_putObj' W D (.deferred none)) (fun e => by injection e with e; omega)).kept (grownBy_putObj' (W.putObj D (.deferred none)) D0 (.deferred none)) (fun e => by injection e with e; omega)
      have hbw2 := (hbw.trans (belowK_b (w := W0) (n₀ := s0) (by omega) W D _ (.deferred none) (by rw [hsz]; exact hD) hK rfl rfl)).trans ((Below.refl s0 (W.putObj D (.deferred none))).grown (grownBy_putObj' (W.putObj D (.deferred none)) D0 (.deferred none)) (by have := block_lt hK2; omega) (fun k e => by injection e with e; omega))
      refine ⟨_, results_cc _ _ (s0 + 1 + 1 + 1) (s0 + 1 + 1 + 1 + 1) _ _ rfl rfl g1.cell g2.cell, ?_, by rw [← hs0]; exact hbw2⟩
      have e : nextN ws kd ix F = (((b2 + bnd (tks ws) x.1 : Nat) : Int), 0) := by unfold nextN; rw [HQ.out.1, HP.out.2.2.2.1, ← HQ.out.2, ← HP.out.2.2.2.2, hfd]
      rw [e]
    case done =>
      rintro D ys W hD hall ⟨hpre, hch⟩ hK
      have hfd := find_done hall hpre
      have hb0 := HS.out.2
      have hs0 := HS.out.1
      have hFW : FiveB W s0 kd ix (F : Int) := hF0.out.keep (fun k hk => hch.block k (by omega) (fun q => q))
      have hKW : W.heap[D0]? = some (.deferred (some [])) := (hch.block D0 (by omega) (fun q => q)).trans hK00
      have hDne : D0 ≠ D := by omega
      have c3 := hFW.2.2.1.cell
      have c4 := hFW.2.2.2.1.cell
      have f4 := hFW.2.2.2.1.frozen
      have c5 := hFW.2.2.2.2.cell
      have f5 := hFW.2.2.2.2.frozen
      have hbF : ¬ (b2 : Int) ≤ (F : Int) := by have := HP.out.2.2.2.2; omega
      have hbw : Below s0 w W := hb0.trans (hch.below (by omega) (fun k hk => hk.elim))
      have HF := Lib.hid (And.intro hD (And.intro hFW.2.2.2.1 (And.intro hFW.2.2.2.2 (And.intro hbw (And.intro hfd hs0)))))
      have HF2 := Lib.hid (And.intro hKW hDne)
      clear hpre hch hb0 hFW hD hT0 c1 c2 hfd hs0 hbw hKW hDne
      gi_wp2
      obtain ⟨hD, h4', h5', hbw', hfd, hs0⟩ := HF.out
      obtain ⟨hKW, hDne⟩ := HF2.out
      have h4 : Boxed ((W.setCell ⟨s0 + 1 + 1 + 1, 0, none⟩ (.int .i64 0)).setCell ⟨s0 + 1 + 1 + 1 + 1, 0, none⟩ (.int .i64 130)) (s0 + 1 + 1 + 1) 3 (.int .i64 0) := (h4'.set _).other (by omega) _
      have h5 : Boxed ((W.setCell ⟨s0 + 1 + 1 + 1, 0, none⟩ (.int .i64 0)).setCell ⟨s0 + 1 + 1 + 1 + 1, 0, none⟩ (.int .i64 130)) (s0 + 1 + 1 + 1 + 1) 25 (.int .i64 130) := Boxed.set _ (h5'.other (by omega) _)
      have hbw : Below s0 w ((W.setCell ⟨s0 + 1 + 1 + 1, 0, none⟩ (.int .i64 0)).setCell ⟨s0 + 1 + 1 + 1 + 1, 0, none⟩ (.int .i64 130)) := (hbw'.setCell (p := ⟨s0 + 1 + 1 + 1, 0, none⟩) (by show s0 ≤ s0 + 1 + 1 + 1; omega) _).setCell (p := ⟨s0 + 1 + 1 + 1 + 1, 0, none⟩) (by show s0 ≤ s0 + 1 + 1 + 1 + 1; omega) _
      have hKa : ((W.setCell ⟨s0 + 1 + 1 + 1, 0, none⟩ (.int .i64 0)).setCell ⟨s0 + 1 + 1 + 1 + 1, 0, none⟩ (.int .i64 130)).heap[D]? = some (.deferred (some [])) := by rw [block_setCell_other (show D ≠ s0 + 1 + 1 + 1 + 1 by omega), block_setCell_other (show D ≠ s0 + 1 + 1 + 1 by omega)]; exact hK
      have hKb : ((W.setCell ⟨s0 + 1 + 1 + 1, 0, none⟩ (.int .i64 0)).setCell ⟨s0 + 1 + 1 + 1 + 1, 0, none⟩ (.int .i64 130)).heap[D0]? = some (.deferred (some [])) := by rw [block_setCell_other (show D0 ≠ s0 + 1 + 1 + 1 + 1 by omega), block_setCell_other (show D0 ≠ s0 + 1 + 1 + 1 by omega)]; exact hKW
      generalize ((W.setCell ⟨s0 + 1 + 1 + 1, 0, none⟩ (.int .i64 0)).setCell ⟨s0 + 1 + 1 + 1 + 1, 0, none⟩ (.int .i64 130)) = W3 at *
      refine ⟨by simp, .inl ⟨_, _, rfl, run_takeDeferred hKa, ?_⟩⟩
      have hK2 : (W3.putObj D (.deferred none)).heap[D0]? = some (.deferred (some [])) := ((grownBy_putObj' W3 D (.deferred none)).block D0 (block_lt hKb) (fun e => hDne (by injection e))).trans hKb
      refine ⟨by simp, .inl ⟨_, _, rfl, run_takeDeferred hK2, ?_⟩⟩
      have g1 := (h4.kept (grownBy_putObj' W3 D (.deferred none)) (fun e => by injection e with e; omega)).kept (grownBy_putObj' (W3.putObj D (.deferred none)) D0 (.deferred none)) (fun e => by injection e with e; omega)
      have g2 := (h5.kept (grownBy_putObj' W3 D (.deferred none)) (fun e => by injection e with e; omega)).kept (grownBy_putObj' (W3.putObj D (.deferred none)) D0 (.deferred none)) (fun e => by injection e with e; omega)
      have hbw2 := (hbw.trans (belowK_b (w := W0) (n₀ := s0) (by omega) W3 D _ (.deferred none) (by rw [hsz]; exact hD) hKa rfl rfl)).trans ((Below.refl s0 (W3.putObj D (.deferred none))).grown (grownBy_putObj' (W3.putObj D (.deferred none)) D0 (.deferred none)) (by have := block_lt hK2; omega) (fun k e => by injection e with e; omega))
      refine ⟨_, results_cc _ _ (s0 + 1 + 1 + 1) (s0 + 1 + 1 + 1 + 1) _ _ rfl rfl g1.cell g2.cell, ?_, by rw [← hs0]; exact hbw2⟩
      have e : nextN ws kd ix F = (0, 130) := by unfold nextN; rw [HQ.out.1, HP.out.2.2.2.1, ← HQ.out.2, ← HP.out.2.2.2.2, hfd]
      rw [e]
set_option maxRecDepth 100000 in
set_option maxHeartbeats 4000000 in
theorem nx_bad (w : World) (G : Nat → Prop) (v : Value) (ws : List Wn) (ht : WinV G w v ws) (kd ix F : Int) (E : Int) (hE : (E = 130 ∧ ¬ okL ws) ∨ (E = 1 ∧ okL ws ∧ ¬ isT F)) :
    Calls Try.prog 16 #[v, .int .i64 kd, .int .i64 ix, .int .i64 F] w fun e w' => e = .returned (.tuple #[.int .i64 0, .int .i64 E]) ∧ Below w.heap.size w w' := by
  obtain ⟨w1, hw1⟩ : ∃ w1, w1 = ((((w.alloc (.cells #[.int .i64 kd] 3)).alloc (.cells #[.int .i64 ix] 3)).alloc (.cells #[.int .i64 F] 3)).alloc (.cells #[.int .i64 0] 3)).alloc (.cells #[.int .i64 0] 25) := ⟨_, rfl⟩
  have hb1 : Below w.heap.size w w1 := by rw [hw1]; exact (((((Below.refl _ w).alloc (Nat.le_refl _) _).alloc (by simp) _).alloc (by simp; omega) _).alloc (by simp; omega) _).alloc (by simp; omega) _
  have k := len_any w1 G _ ws (ht.below hb1)
  have c0 : Boxed w1 (w.heap.size + 1 + 1) 3 (.int .i64 F) ∧ Boxed w1 (w.heap.size + 1 + 1 + 1) 3 (.int .i64 0) ∧ Boxed w1 (w.heap.size + 1 + 1 + 1 + 1) 25 (.int .i64 0) := by
    rw [hw1]
    refine ⟨?_, ?_, ?_⟩
    · have := ((Boxed.new ((w.alloc (.cells #[.int .i64 kd] 3)).alloc (.cells #[.int .i64 ix] 3)) 3 (.int .i64 F)).alloc (.cells #[.int .i64 0] 3)).alloc (.cells #[.int .i64 0] 25)
      rw [World.size_alloc, World.size_alloc] at this; exact this
    · have := (Boxed.new (((w.alloc (.cells #[.int .i64 kd] 3)).alloc (.cells #[.int .i64 ix] 3)).alloc (.cells #[.int .i64 F] 3)) 3 (.int .i64 0)).alloc (.cells #[.int .i64 0] 25)
      rw [World.size_alloc, World.size_alloc, World.size_alloc] at this; exact this
    · have := Boxed.new ((((w.alloc (.cells #[.int .i64 kd] 3)).alloc (.cells #[.int .i64 ix] 3)).alloc (.cells #[.int .i64 F] 3)).alloc (.cells #[.int .i64 0] 3)) 25 (.int .i64 0)
      rw [World.size_alloc, World.size_alloc, World.size_alloc, World.size_alloc] at this; exact this
  have C1 : Hid (∀ W, Below w1.heap.size w1 W → Boxed W (w.heap.size + 1 + 1) 3 (.int .i64 F) ∧ Boxed W (w.heap.size + 1 + 1 + 1) 3 (.int .i64 0) ∧ Boxed W (w.heap.size + 1 + 1 + 1 + 1) 25 (.int .i64 0) ∧ Below w.heap.size w W) := Lib.hid fun W hW =>
    ⟨(hW.block _ c0.1.lt).trans c0.1, (hW.block _ c0.2.1.lt).trans c0.2.1, (hW.block _ c0.2.2.lt).trans c0.2.2, hb1.trans (hW.mono hb1.size)⟩
  rw [hw1] at k C1
  have kf := fun W => tick_any W F
  obtain ⟨q, n, cap0, rfl⟩ : ∃ q n cap, v = .slice q n cap := by obtain ⟨q, cap, e, _⟩ := ht; exact ⟨_, _, _, e⟩
  have hfin : ∀ W2 (E0 : Int), Boxed W2 (w.heap.size + 1 + 1 + 1) 3 (.int .i64 0) → Boxed W2 (w.heap.size + 1 + 1 + 1 + 1) 25 (.int .i64 0) → Below w.heap.size w W2 →
      Hid (Boxed ((W2.setCell ⟨w.heap.size + 1 + 1 + 1, 0, none⟩ (.int .i64 0)).setCell ⟨w.heap.size + 1 + 1 + 1 + 1, 0, none⟩ (.int .i64 E0)) (w.heap.size + 1 + 1 + 1) 3 (.int .i64 0) ∧ Boxed ((W2.setCell ⟨w.heap.size + 1 + 1 + 1, 0, none⟩ (.int .i64 0)).setCell ⟨w.heap.size + 1 + 1 + 1 + 1, 0, none⟩ (.int .i64 E0)) (w.heap.size + 1 + 1 + 1 + 1) 25 (.int .i64 E0) ∧ Below w.heap.size w ((W2.setCell ⟨w.heap.size + 1 + 1 + 1, 0, none⟩ (.int .i64 0)).setCell ⟨w.heap.size + 1 + 1 + 1 + 1, 0, none⟩ (.int .i64 E0))) := fun W2 E0 b4 b5 hb => Lib.hid
    ⟨(b4.set _).other (by omega) _, Boxed.set _ (b5.other (by omega) _), (hb.setCell (p := ⟨w.heap.size + 1 + 1 + 1, 0, none⟩) (by show w.heap.size ≤ w.heap.size + 1 + 1 + 1; omega) _).setCell (p := ⟨w.heap.size + 1 + 1 + 1 + 1, 0, none⟩) (by show w.heap.size ≤ w.heap.size + 1 + 1 + 1 + 1; omega) _⟩
  have HFIN := Lib.hid hfin
  rcases hE with ⟨rfl, hno⟩ | ⟨rfl, hok, hnt⟩
  · rw [show chkE ws = 130 from if_neg hno] at k
    generalize lenV ws = L at *
    clear ht hb1 hw1 c0 kf hfin
    go_enter Try.func16, Try.ntmps16
    go_wp2
    refine wp_scope_straight ?_
    go_wp2_with (go_at_call 8; refine k.mono ?_; rintro e w2 ⟨rfl, hb⟩; obtain ⟨b3, b4, b5, hbw⟩ := C1.out _ hb; have HF := HFIN.out w2 130 b4 b5 hbw; have d4 := b4.cell; have f4 := b4.frozen; have d5 := b5.cell; have f5 := b5.frozen; clear hb b3 b4 b5 hbw)
    rw [Exit.noGoto_ret]
    exact bodyPost_ret_by (results_cc _ _ (w.heap.size + 1 + 1 + 1) (w.heap.size + 1 + 1 + 1 + 1) _ _ rfl rfl HF.out.1.cell HF.out.2.1.cell) rfl ⟨rfl, HF.out.2.2⟩
  · rw [show chkE ws = 0 from if_pos hok] at k
    rw [decide_eq_false hnt] at kf
    have KF := Lib.hid kf
    generalize lenV ws = L at *
    clear ht hb1 hw1 c0 kf hfin hok hnt
    go_enter Try.func16, Try.ntmps16
    go_wp2
    refine wp_scope_straight ?_
    go_wp2_with (first
      | (go_at_call 8; refine k.mono ?_; rintro e w2 ⟨rfl, hb⟩; obtain ⟨b3, b4, b5, hbw⟩ := C1.out _ hb; have HF := HFIN.out w2 1 b4 b5 hbw; have d3 := b3.cell; have d4 := b4.cell; have f4 := b4.frozen; have d5 := b5.cell; have f5 := b5.frozen; clear hb b3 b4 b5 hbw)
      | (go_at_call 36; refine (KF.out _).mono ?_; rintro e _ ⟨rfl, rfl⟩))
    rw [Exit.noGoto_ret]
    exact bodyPost_ret_by (results_cc _ _ (w.heap.size + 1 + 1 + 1) (w.heap.size + 1 + 1 + 1 + 1) _ _ rfl rfl HF.out.1.cell HF.out.2.1.cell) rfl ⟨rfl, HF.out.2.2⟩
theorem nx_any (w : World) (G : Nat → Prop) (v : Value) (ws : List Wn) (ht : WinV G w v ws) (kd ix F : Int) :
    Calls Try.prog 16 #[v, .int .i64 kd, .int .i64 ix, .int .i64 F] w fun e w' => e = .returned (.tuple #[.int .i64 (nextV ws kd ix F).1, .int .i64 (nextV ws kd ix F).2]) ∧ Below w.heap.size w w' := by
  by_cases hok : okL ws
  · by_cases h : isT F
    · obtain ⟨f, rfl⟩ : ∃ n : Nat, F = (n : Int) := ⟨F.toNat, by have := h.1; omega⟩
      have e : nextV ws kd ix (f : Int) = nextN ws kd ix f := by unfold nextV; rw [if_pos hok, if_pos h]; rfl
      rw [e]
      exact nx_yes w G v ws ht hok kd ix f (by have := h.2; omega)
    · have e : nextV ws kd ix F = (0, 1) := by unfold nextV; rw [if_pos hok, if_neg h]
      rw [e]
      exact nx_bad w G v ws ht kd ix F 1 (.inr ⟨rfl, hok, h⟩)
  · have e : nextV ws kd ix F = (0, 130) := by unfold nextV; rw [if_neg hok]
    rw [e]
    exact nx_bad w G v ws ht kd ix F 130 (.inl ⟨rfl, hok⟩)
end Go.Proofs.Ytgbmddjpaibcfaa
