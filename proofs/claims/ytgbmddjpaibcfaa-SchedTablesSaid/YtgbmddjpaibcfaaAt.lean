/- Where a tick lies: what the call returns. No conditions. -/
import Derived.BigRegionIn
import Derived.Laws.ResultCell
import Derived.Test.YtgbmddjpaibcfaaSm
namespace Go.Proofs.Ytgbmddjpaibcfaa
open Go.RowKit Go.Maps Go.Shelf
set_option linter.unusedVariables false
attribute [local go_sem] Oper.semAt_some

theorem results_ct {P : Program} {fn : Func} {p u : Tmp} {ty : TypeId} (h : fn.results = #[.cell p ty, .tmp u]) (tmps : Array Value) (w : World) (g : Nat) (t : TypeId) (cs : Array Value) (fr : Nat × Nat) (d : TypeDesc) (v : Value)
    (hp : tmps.getD p undef = .pointer (some ⟨g, 0, none⟩)) (hv : tmps.getD u undef = v) (hg : w.heap[g]? = some (.cells cs t fr))
    (hu : P.underlying ty = some d) (hd : (match d with | .struct _ | .array _ _ => true | _ => false) = true) (hi : (P.info? ty).map (·.size) = some cs.size) :
    (results fn tmps).run P w = .ok (.tuple #[.agg cs, v]) w := by
  rw [results_cell_tmp h, hp, hv]
  simp [asAddr, run_loadVar_row w g t ty cs fr d hg hu hd hi]
theorem set3 {w : World} {g : Nat} {u0 u1 u2 : Value} {t : TypeId} {fr : Nat × Nat} (h : w.heap[g]? = some (.cells #[u0, u1, u2] t fr)) (v0 v1 v2 : Value) :
    (((w.setCell ⟨g, 0, none⟩ v0).setCell ⟨g, 1, none⟩ v1).setCell ⟨g, 2, none⟩ v2).heap[g]? = some (.cells #[v0, v1, v2] t fr) := block_setCell (block_setCell (block_setCell h))
theorem results_at : Try.f12.results = #[.cell 4 30, .tmp 5] := by kernel_rfl
/-- the window that r lies in, and its place there -/
def loc : List Nat → Nat → Nat × Nat
  | [], r => (0, r)
  | n :: ns, r => if r < n then (0, r) else ((loc ns (r - n)).1 + 1, (loc ns (r - n)).2)
theorem bnd_cons (n : Nat) (ns : List Nat) (k : Nat) : bnd (n :: ns) (k + 1) = n + bnd ns k := by simp [bnd]
theorem loc_is : ∀ (ns : List Nat) (r i : Nat), i < ns.length → bnd ns i ≤ r → r < bnd ns (i + 1) → loc ns r = (i, r - bnd ns i)
  | [], _, _, h, _, _ => absurd h (by simp)
  | n :: ns, r, 0, _, h1, h2 => by
    rw [bnd_cons, bnd_zero] at h2
    unfold loc; rw [if_pos (by omega), bnd_zero]; rfl
  | n :: ns, r, i + 1, h, h1, h2 => by
    rw [bnd_cons] at h1 h2
    have := loc_is ns (r - n) i (by simp at h; omega) (by omega) (by omega)
    unfold loc; rw [if_neg (by omega), this, bnd_cons]
    exact Prod.ext rfl (show r - n - bnd ns i = r - (n + bnd ns i) by omega)
def lenN (ws : List Wn) : Nat := (tks ws).sum
/-- where a tick lies, and what is told -/
def atV (ws : List Wn) (t : Int) : Int × Int × Int × Int :=
  if okL ws then (if isT t then (((t.toNat / lenN ws : Nat) : Int), (((loc (tks ws) (t.toNat % lenN ws)).1 : Nat) : Int), (((loc (tks ws) (t.toNat % lenN ws)).2 : Nat) : Int), 0) else (0, 0, 0, 1)) else (0, 0, 0, 130)
theorem lenN_ok {ws : List Wn} (h : okL ws) : 1 ≤ lenN ws ∧ lenN ws ≤ 16320 := by
  have h2 := bnd_ok h ws.length (Nat.le_refl _)
  rw [← tks_len ws, bnd_all] at h2
  have h3 : 0 < (tks ws).length := by rw [tks_len]; exact h.1
  have h4 := bnd_mono (tks ws) (i := 1) (j := (tks ws).length) (by omega)
  rw [bnd_all, show (1 : Nat) = 0 + 1 from rfl, bnd_succ _ 0 h3, bnd_zero] at h4
  have := (tks_le h _ (List.getElem_mem h3)).1
  exact ⟨by show 1 ≤ (tks ws).sum; omega, h2⟩
/-- the last window gone through, and the tick's place behind its beginning -/
def lastI {ws : List Wn} (pre : List (Ix ws)) : Nat := match pre.getLast? with | none => 0 | some x => x.1
def lastO {ws : List Wn} (r : Nat) (pre : List (Ix ws)) : Int := match pre.getLast? with | none => 0 | some x => (r : Int) - (bnd (tks ws) x.1 : Nat)
theorem lastI_snoc {ws : List Wn} (pre : List (Ix ws)) (x : Ix ws) : lastI (pre ++ [x]) = x.1 := by simp [lastI]
theorem lastO_snoc {ws : List Wn} (r : Nat) (pre : List (Ix ws)) (x : Ix ws) : lastO r (pre ++ [x]) = (r : Int) - (bnd (tks ws) x.1 : Nat) := by simp [lastO]
theorem in_order {ws : List Wn} {pre : List (Ix ws)} {x : Ix ws} {j R : Nat} (h : (pre ++ [x]).map (·.1) = List.range j) (hp : ∀ y ∈ pre, bnd (tks ws) (y.1 + 1) ≤ R) : bnd (tks ws) x.1 ≤ R := by
  have hl := congrArg List.length h
  rw [List.length_map, List.length_append, List.length_singleton, List.length_range] at hl
  rw [List.map_append, ← hl, List.range_succ] at h
  obtain ⟨e1, e2⟩ := List.append_inj' h rfl
  have e3 : x.1 = pre.length := by simpa using e2
  by_cases h0 : x.1 = 0
  · rw [h0, bnd_zero]; exact Nat.zero_le _
  · have hm : x.1 - 1 ∈ pre.map (·.1) := by rw [e1, List.mem_range]; omega
    obtain ⟨y, hy, e4⟩ := List.mem_map.1 hm
    have := hp y hy
    rw [show y.1 + 1 = x.1 by have : y.1 = x.1 - 1 := e4; omega] at this
    exact this
def onB (g : Nat) : Nat → Prop := fun k => k = g
theorem own_ch {α : Type} {F : Nat → Prop} {W0 : World} {n1 : Nat} (h : W0.heap.size = n1) : OwnFrom n1 (fun (_ : List α) W => Ch F W0 W) := fun pre W W' row hW hg hr =>
  hW.grown hg (fun j e => .inr (by have := (hr j e).1; omega))
set_option maxRecDepth 100000 in
set_option maxHeartbeats 4000000 in
theorem at_yes (w : World) (G : Nat → Prop) (v : Value) (ws : List Wn) (ht : WinV G w v ws) (hok : okL ws) (t : Nat) (h40 : t ≤ 1099511627776) :
    Calls Try.prog 12 #[v, .int .i64 (t : Int)] w fun e w' => e = .returned (.tuple #[.agg #[.int .i64 ((t / lenN ws : Nat) : Int), .int .i64 ((loc (tks ws) (t % lenN ws)).1 : Nat), .int .i64 ((loc (tks ws) (t % lenN ws)).2 : Nat)], .int .i64 0]) ∧ Below w.heap.size w w' := by
  obtain ⟨q, n, cap0, rfl⟩ : ∃ q n cap, v = .slice q n cap := by obtain ⟨q, cap, e, _⟩ := ht; exact ⟨_, _, _, e⟩
  have hL := lenN_ok hok
  obtain ⟨L, hLe⟩ : ∃ L, L = lenN ws := ⟨_, rfl⟩
  rw [← hLe] at hL
  obtain ⟨w1, hw1⟩ : ∃ w1, w1 = (w.alloc (.cells #[.int .i64 (t : Int)] 3)).alloc (.cells #[.int .i64 0, .int .i64 0, .int .i64 0] 30) := ⟨_, rfl⟩
  have hb1 : Below w.heap.size w w1 := by rw [hw1]; exact ((Below.refl _ w).alloc (Nat.le_refl _) _).alloc (by simp) _
  have k := len_any w1 G _ ws (ht.below hb1)
  have e1 : chkE ws = 0 := if_pos hok
  have e2 : lenV ws = (L : Nat) := by rw [hLe]; exact if_pos hok
  rw [e1, e2, hw1] at k
  have kt : ∀ W, Calls Try.prog 36 #[.int .i64 (t : Int)] W fun e w' => e = .returned (.bool true) ∧ W = w' := fun W => by
    have := tick_any W (t : Int)
    rw [decide_eq_true (show isT (t : Int) from ⟨by omega, by omega⟩)] at this
    exact this
  have KT := Lib.hid kt
  have HB1 := Lib.hid hb1
  clear kt hb1
  have c0 : ∀ W, Below w1.heap.size w1 W → W.cell? ⟨w.heap.size, 0, none⟩ = some (.int .i64 (t : Int)) := fun W hW => cell_below (by rw [hw1]; exact ((Boxed.new w 3 _).alloc _).cell) hW
  rw [hw1] at c0
  obtain ⟨Q, hQ⟩ : ∃ Q, Q = t / L := ⟨_, rfl⟩
  obtain ⟨R, hR⟩ : ∃ R, R = t % L := ⟨_, rfl⟩
  have hdm : L * Q + R = t := by rw [hQ, hR]; exact Nat.div_add_mod t L
  have hR2 : R < L := by rw [hR]; exact Nat.mod_lt _ (by omega)
  have hQ2 : Q ≤ 1099511627776 := by rw [hQ]; exact Nat.le_trans (Nat.div_le_self _ _) h40
  obtain ⟨b, hb⟩ : ∃ b, b = Q * L := ⟨_, rfl⟩
  have hb2 : b + R = t := by rw [hb, Nat.mul_comm]; exact hdm
  have q1 : IntKind.i64.wrap ((t : Int).tdiv (L : Int)) = (Q : Int) := by
    rw [show (t : Int).tdiv (L : Int) = (Q : Int) by rw [hQ]; exact Int.ofNat_tdiv _ _]; exact IntWalk.i64_in _ (by omega)
  have q1b : IntKind.i64.wrap ((t : Int) / (L : Int)) = (Q : Int) := by
    rw [show (t : Int) / (L : Int) = (Q : Int) by rw [hQ]; exact (Int.natCast_ediv _ _).symm]; exact IntWalk.i64_in _ (by omega)
  have q2 : IntKind.i64.wrap ((Q : Int) * (L : Int)) = (b : Int) := by rw [show (Q : Int) * (L : Int) = (b : Int) by rw [hb]; exact (Int.natCast_mul _ _).symm]; exact IntWalk.i64_in _ (by omega)
  have n0 : ¬ (L : Int) = 0 := by omega
  have n1 : ((L : Int) == 0) = false := by simpa using n0
  have HQ := Lib.hid (And.intro hQ (And.intro hR (And.intro hdm (And.intro hb hLe))))
  have HW := Lib.hid (And.intro hw1 ht)
  have C0 := Lib.hid c0
  clear hQ hR hdm hb hLe e1 e2 hw1 ht c0
  refine (callsIn_wide (n := 9)).1 ?_
  refine callsIn_of_wp_marks Try.func12 rfl trivial ?_ rfl
  simp only [Try.ntmps12, List.size_toArray, List.length_cons, List.length_nil, Nat.reduceAdd, Nat.reduceSub, Array.replicate_succ, Array.replicate_zero, List.push_toArray, List.append_toArray, List.nil_append, List.cons_append]
  gi_wp2_with (first
      | (refine ⟨trivial, ?_⟩; gi_at_call 8; refine (callsIn_wide.2 k).mono ?_; rintro e w2 ⟨rfl, hb⟩; have c2 := C0.out _ hb; have HB2 := Lib.hid hb; clear hb)
      | (refine ⟨trivial, ?_⟩; gi_at_call 36; refine (callsIn_wide.2 (KT.out _)).mono ?_; rintro e _ ⟨rfl, rfl⟩)
      | (refine ⟨trivial, ?_⟩; gi_at_call 32; refine (spans_any _ _ _ _ _ _).mono ?_; rintro e w3 ⟨rfl, rfl⟩))
  obtain ⟨S, hS⟩ : ∃ S, S = w2.heap.size := ⟨_, rfl⟩
  obtain ⟨s0, hs0⟩ : ∃ s0, s0 = w.heap.size := ⟨_, rfl⟩
  obtain ⟨W0, hW0⟩ : ∃ W0, W0 = ((w2.alloc (.cells #[.int .i64 (Q : Int), .int .i64 0, .int .i64 0] 30)).alloc (.cells #[.slice q n cap0] 22)).alloc (.cells #[.int .i64 (b : Int)] 3) := ⟨_, rfl⟩
  obtain ⟨hw1, ht⟩ := HW.out
  have hb2w := HB2.out
  rw [← hw1] at hb2w
  have hsz1 : w1.heap.size = s0 + 2 := by rw [hw1, hs0]; simp
  have hsS : s0 + 2 ≤ S := by rw [← hsz1, hS]; exact hb2w.size
  have hsz : W0.heap.size = S + 3 := by rw [hW0, hS]; simp
  have bP : W0.heap[S]? = some (.cells #[.int .i64 (Q : Int), .int .i64 0, .int .i64 0] 30 (0, 0)) := by rw [hW0, hS]; exact block_alloc (block_alloc (block_new w2 _) _) _
  have bRes : W0.heap[s0 + 1]? = some (.cells #[.int .i64 0, .int .i64 0, .int .i64 0] 30 (0, 0)) := by
    rw [hW0]
    refine block_alloc (block_alloc (block_alloc ?_ _) _) _
    rw [hb2w.block (s0 + 1) (by omega), hw1, hs0]
    have := block_new (w.alloc (.cells #[.int .i64 (t : Int)] 3)) (.cells #[.int .i64 0, .int .i64 0, .int .i64 0] 30)
    rw [World.size_alloc] at this; exact this
  have bT : Boxed W0 s0 3 (.int .i64 (t : Int)) := by
    rw [hW0]
    refine Boxed.alloc (Boxed.alloc (Boxed.alloc ?_ _) _) _
    exact (hb2w.block s0 (by omega)).trans (by rw [hw1, hs0]; exact (Boxed.new w 3 _).alloc _)
  have c1 : W0.cell? ⟨S + 1, 0, none⟩ = some (.slice q n cap0) := by
    have := ((Boxed.new (w2.alloc (.cells #[.int .i64 (Q : Int), .int .i64 0, .int .i64 0] 30)) 22 (.slice q n cap0)).alloc (.cells #[.int .i64 (b : Int)] 3)).cell
    rw [World.size_alloc, ← hS, ← hW0] at this; exact this
  have c2' : W0.cell? ⟨S + 1 + 1, 0, none⟩ = some (.int .i64 (b : Int)) := by
    have := (Boxed.new ((w2.alloc (.cells #[.int .i64 (Q : Int), .int .i64 0, .int .i64 0] 30)).alloc (.cells #[.slice q n cap0] 22)) 3 (.int .i64 (b : Int))).cell
    rw [World.size_alloc, World.size_alloc, ← hS, ← hW0] at this; exact this
  have hb1 : Below s0 w w1 := by rw [hs0]; exact HB1.out
  have hb0 : Below s0 w W0 := by
    rw [hW0]
    exact (((hb1.trans (hb2w.mono (by omega))).alloc (by omega) _).alloc (by simp; omega) _).alloc (by simp; omega) _
  have hT0 : WinV (fun k => G k ∧ k < s0) W0 (.slice q n cap0) ws := by
    have := ht.lt (s := s0) (by omega)
    rw [hs0] at hb0
    exact this.below hb0
  rw [← hW0, ← hS, ← hs0]
  have HS := Lib.hid (And.intro hS (And.intro hs0 (And.intro hb0 hsz)))
  have hb40 : b ≤ 2199023255552 := by omega
  clear hW0 k hS c2 hs0 hb0 hw1 ht hb2w hsz1 HB2 C0 HW
  refine range_spans (bb := S + 1) (s := s0) (n1 := S + 3) G b hb40 (.slice q n cap0) ws hok
    (fun i Bx => #[.slice q n cap0, .int .i64 (t : Int), undef, .pointer (some ⟨s0, 0, none⟩), .pointer (some ⟨s0 + 1, 0, none⟩), .int .i64 0, .int .i64 (L : Int), .int .i64 0, .pointer (some ⟨S, 0, none⟩), .int .i64 (i : Int), .pointer (some ⟨Bx, 0, none⟩),
      .tuple #[.int .i64 (L : Int), .int .i64 0], .slice q n cap0, .tuple #[.int .i64 (L : Int), .int .i64 0], .int .i64 (L : Int), .int .i64 0, .int .i64 0, .bool false, undef, undef, .int .i64 (t : Int), .bool true, .bool false, undef, .int .i64 (t : Int), .int .i64 (L : Int), .int .i64 (Q : Int),
      .agg #[.int .i64 (Q : Int), .int .i64 0, .int .i64 0], .slice q n cap0, .pointer (some ⟨S, 0, none⟩), .int .i64 (Q : Int), .int .i64 (L : Int), .int .i64 (b : Int),
      .func (.func 44) #[] #[.pointer (some ⟨S + 1 + 1, 0, none⟩), .pointer (some ⟨S + 1, 0, none⟩)], .int .i64 (i : Int), .agg (scells ws b i), undef, undef, undef, undef, undef, undef, undef, undef, undef, undef, undef, undef])
    rfl c2' c1 hT0 (by omega) (by omega) hsz
    (fun pre W => (W.heap[S]? = some (.cells #[.int .i64 (Q : Int), .int .i64 (lastI pre : Nat), .int .i64 (lastO R pre)] 30 (0, 0)) ∧ ∀ x ∈ pre, bnd (tks ws) (x.1 + 1) ≤ R) ∧ Ch (onB S) W0 W)
    (fun c pre W => (c = .exit 0 ∧ ∃ pre' x, pre = pre' ++ [x] ∧ (∀ y ∈ pre', bnd (tks ws) (y.1 + 1) ≤ R) ∧ R < bnd (tks ws) (x.1 + 1) ∧ W.heap[S]? = some (.cells #[.int .i64 (Q : Int), .int .i64 (x.1 : Int), .int .i64 ((R : Int) - (bnd (tks ws) x.1 : Nat))] 30 (0, 0))) ∧ Ch (onB S) W0 W)
    ?hI ?hIx ⟨⟨bP, fun x hx => (nomatch hx)⟩, Ch.refl _ _⟩ (fun _ _ h => by rw [← hsz]; exact h.2.size) ?assign ?body ?done ?stop
  case hI =>
    refine OwnFrom.and (fun pre W W' row h hg hr => ⟨?_, h.2⟩) (own_ch hsz)
    rw [hg.block S (block_lt h.1) (fun e => by have := (hr _ e.symm).1; omega)]; exact h.1
  case hIx =>
    refine fun c => OwnFrom.and (fun pre W W' row h hg hr => ?_) (own_ch hsz)
    obtain ⟨e, pre', x, h1, h2, h3, h4⟩ := h
    refine ⟨e, pre', x, h1, h2, h3, ?_⟩
    rw [hg.block S (block_lt h4) (fun e => by have := (hr _ e.symm).1; omega)]; exact h4
  case assign =>
    rintro l pre x W K hi hK
    have HK := Lib.hid hK
    clear hi hK
    dsimp only [encS]
    gi_wp2
    exact HK.out
  case body =>
    rintro l pre x Bx W hl ⟨r, hr⟩ ⟨⟨hP, hpre⟩, hch⟩ hBx bX hlt
    have bTW : Boxed W s0 3 (.int .i64 (t : Int)) := (hch.block s0 (by omega) (show ¬ s0 = S by omega)).trans bT
    obtain ⟨i, hi⟩ : ∃ i, i = x.1 := ⟨_, rfl⟩
    have hbi := bnd_ok hok i (by rw [hi]; exact Nat.le_of_lt x.2)
    have hbj := bnd_ok hok (i + 1) (by rw [hi]; exact x.2)
    obtain ⟨A, hA⟩ : ∃ A, A = bnd (tks ws) i := ⟨_, rfl⟩
    obtain ⟨B, hB⟩ : ∃ B, B = bnd (tks ws) (i + 1) := ⟨_, rfl⟩
    obtain ⟨bA, hbA⟩ : ∃ bA, bA = b + A := ⟨_, rfl⟩
    obtain ⟨bB, hbB⟩ : ∃ bB, bB = b + B := ⟨_, rfl⟩
    rw [← hA] at hbi
    rw [← hB] at hbj
    have x3 : W.cell? ⟨Bx, 3, none⟩ = some (.int .i64 (bA : Int)) := by rw [cell_of_row _ _ _ _ _ _ bX, hbA, hA, hi]; rfl
    have x4 : W.cell? ⟨Bx, 4, none⟩ = some (.int .i64 (bB : Int)) := by rw [cell_of_row _ _ _ _ _ _ bX, hbB, hB, hi]; rfl
    have cT := bTW.cell
    have cP1 : W.cell? ⟨S, 1, none⟩ = some (.int .i64 (lastI pre : Nat)) := by rw [cell_of_row _ _ _ _ _ _ hP]; rfl
    have cP2 : W.cell? ⟨S, 2, none⟩ = some (.int .i64 (lastO R pre)) := by rw [cell_of_row _ _ _ _ _ _ hP]; rfl
    have fP1 := block_free (o := 1) hP
    have fP2 := block_free (o := 2) hP
    have q3 : IntKind.i64.wrap ((t : Int) - (bA : Int)) = (t : Int) - (bA : Int) := IntWalk.i64_in _ (by omega)
    have HI := Lib.hid (And.intro hP (And.intro hpre (And.intro hch (And.intro hi (And.intro hA (And.intro hB (And.intro hbA hbB)))))))
    simp only [← hi]
    clear hP hpre hch hi hA hB hbA hbB bX hr hlt bTW
    gi_wp2
    refine (fun (h : ?claimX) => ?gX) ?mX
    case gX => gi_region <;> exact h
    have hS2 : ((W.setCell ⟨S, 1, none⟩ (.int .i64 (i : Int))).setCell ⟨S, 2, none⟩ (.int .i64 ((t : Int) - (bA : Int)))).drew.heap[S]? = some (.cells #[.int .i64 (Q : Int), .int .i64 (i : Int), .int .i64 ((t : Int) - (bA : Int))] 30 (0, 0)) := block_setCell (block_setCell HI.out.1)
    have hC2 : Ch (onB S) W0 ((W.setCell ⟨S, 1, none⟩ (.int .i64 (i : Int))).setCell ⟨S, 2, none⟩ (.int .i64 ((t : Int) - (bA : Int)))).drew := ((HI.out.2.2.1.setCell (p := S) rfl 1 _).setCell (p := S) rfl 2 _).drew
    have hK2 : KeepsFrom (S + 3) W ((W.setCell ⟨S, 1, none⟩ (.int .i64 (i : Int))).setCell ⟨S, 2, none⟩ (.int .i64 ((t : Int) - (bA : Int)))).drew := (((KeepsOthers.setCell _ _ _).trans (KeepsOthers.setCell _ _ _)).trans (KeepsOthers.drew _)).from _
    have hS3 : KS (fun k => (G k ∧ k < s0) ∨ k = S + 1 + 1 ∨ k = S + 1) W ((W.setCell ⟨S, 1, none⟩ (.int .i64 (i : Int))).setCell ⟨S, 2, none⟩ (.int .i64 ((t : Int) - (bA : Int)))).drew := by
      refine ⟨by show W.heap.size ≤ ((W.setCell _ _).setCell _ _).heap.size; rw [setCell_size, setCell_size]; exact Nat.le_refl _, fun k hk hK => ?_⟩
      show ((W.setCell _ _).setCell _ _).heap[k]? = _
      rw [block_setCell_other (show k ≠ S by omega), block_setCell_other (show k ≠ S by omega)]
    have cT2 : ((W.setCell ⟨S, 1, none⟩ (.int .i64 (i : Int))).setCell ⟨S, 2, none⟩ (.int .i64 ((t : Int) - (bA : Int)))).drew.cell? ⟨s0, 0, none⟩ = some (.int .i64 (t : Int)) := by
      show World.cell? ((W.setCell _ _).setCell _ _) _ = _
      simp only [World.cell?]
      rw [block_setCell_other (show s0 ≠ S by omega), block_setCell_other (show s0 ≠ S by omega)]
      exact cT
    have cB2 : ((W.setCell ⟨S, 1, none⟩ (.int .i64 (i : Int))).setCell ⟨S, 2, none⟩ (.int .i64 ((t : Int) - (bA : Int)))).drew.cell? ⟨Bx, 4, none⟩ = some (.int .i64 (bB : Int)) := by
      show World.cell? ((W.setCell _ _).setCell _ _) _ = _
      simp only [World.cell?]
      rw [block_setCell_other (show Bx ≠ S by omega), block_setCell_other (show Bx ≠ S by omega)]
      exact x4
    generalize ((W.setCell ⟨S, 1, none⟩ (.int .i64 (i : Int))).setCell ⟨S, 2, none⟩ (.int .i64 ((t : Int) - (bA : Int)))).drew = W2 at *
    have HI2 := Lib.hid (And.intro hS2 (And.intro hC2 (And.intro hK2 hS3)))
    clear hS2 hC2 hK2 hS3 x3 x4 cT cP1 cP2 fP1 fP2
    obtain ⟨hP, hpre, hch, hi, hA, hB, hbA, hbB⟩ := HI.out
    have hO : (t : Int) - (bA : Int) = (R : Int) - (bnd (tks ws) x.1 : Nat) := by rw [← hi, ← hA, hbA]; omega
    have HO := Lib.hid hO
    clear hP hpre hch hi hA hB hbA hbB hO
    by_cases hlt : t < bB
    · have hltI : (t : Int) < (bB : Int) := by omega
      gi_wp2
      obtain ⟨hP, hpre, hch, hi, hA, hB, hbA, hbB⟩ := HI.out
      refine ⟨HI2.out.2.2.1, ⟨rfl, pre, x, rfl, hpre, by rw [← hi, ← hB]; omega, ?_⟩, HI2.out.2.1⟩
      rw [← HO.out, ← hi]
      exact HI2.out.1
    · have hltI : ¬ (t : Int) < (bB : Int) := by omega
      gi_wp2
      obtain ⟨hP, hpre, hch, hi, hA, hB, hbA, hbB⟩ := HI.out
      have hall2 : ∀ y ∈ pre ++ [x], bnd (tks ws) (y.1 + 1) ≤ R := fun y hy => by
        rcases List.mem_append.1 hy with hy | hy
        · exact hpre y hy
        · rw [List.mem_singleton.1 hy, ← hi, ← hB]; omega
      refine ⟨HI2.out.2.2.1, HI2.out.2.2.2, ⟨?_, ?_⟩, HI2.out.2.1⟩
      · rw [lastI_snoc, lastO_snoc, ← HO.out, ← hi]
        exact HI2.out.1
      · first | exact hall2 | exact fun a b hy => hall2 ⟨a, b⟩ hy | exact fun a b hy => hall2 ⟨a, b⟩ (by simpa using hy)
  case done =>
    rintro D ys W hD hall ⟨⟨hP, hpre⟩, hch⟩ hK
    exfalso
    have hn := hok.1
    have hm : ws.length - 1 ∈ ys.map (·.1) := by rw [hall, List.mem_range]; omega
    obtain ⟨y, hy, e4⟩ := List.mem_map.1 hm
    have h1 := hpre y hy
    rw [show y.1 + 1 = (tks ws).length by rw [tks_len]; have : y.1 = ws.length - 1 := e4; omega, bnd_all] at h1
    have h2 : L = (tks ws).sum := HQ.out.2.2.2.2
    omega
  case stop =>
    rintro D c pre W hD ⟨j, hj⟩ ⟨⟨rfl, pre', x, h1, h2, h3, hP⟩, hch⟩ hK
    rw [h1] at hj
    have h4 := in_order hj h2
    have hloc := loc_is (tks ws) R x.1 (by rw [tks_len]; exact x.2) h4 h3
    obtain ⟨i, hi⟩ : ∃ i, i = x.1 := ⟨_, rfl⟩
    obtain ⟨O, hO⟩ : ∃ O, O = R - bnd (tks ws) x.1 := ⟨_, rfl⟩
    rw [show (R : Int) - (bnd (tks ws) x.1 : Nat) = (O : Int) by rw [hO]; omega, ← hi] at hP
    rw [← hO, ← hi] at hloc
    have bR := (hch.block (s0 + 1) (by omega) (show ¬ s0 + 1 = S by omega)).trans bRes
    have cP0 : W.cell? ⟨S, 0, none⟩ = some (.int .i64 (Q : Int)) := by rw [cell_of_row _ _ _ _ _ _ hP]; rfl
    have cP1 : W.cell? ⟨S, 1, none⟩ = some (.int .i64 (i : Int)) := by rw [cell_of_row _ _ _ _ _ _ hP]; rfl
    have cP2 : W.cell? ⟨S, 2, none⟩ = some (.int .i64 (O : Int)) := by rw [cell_of_row _ _ _ _ _ _ hP]; rfl
    have r0 : W.cell? ⟨s0 + 1, 0, none⟩ = some (.int .i64 0) := by rw [cell_of_row _ _ _ _ _ _ bR]; rfl
    have r1 : W.cell? ⟨s0 + 1, 1, none⟩ = some (.int .i64 0) := by rw [cell_of_row _ _ _ _ _ _ bR]; rfl
    have r2 : W.cell? ⟨s0 + 1, 2, none⟩ = some (.int .i64 0) := by rw [cell_of_row _ _ _ _ _ _ bR]; rfl
    have f0 := block_free (o := 0) bR
    have f1 := block_free (o := 1) bR
    have f2 := block_free (o := 2) bR
    have HF := Lib.hid (And.intro hloc (And.intro hch (And.intro hD (And.intro bR hK))))
    clear h1 h2 h3 h4 hj hloc hch hO hi bR hP hD hK bP bRes bT hb1 hT0 c1 c2'
    gi_wp2
    obtain ⟨hloc, hch, hD, bR, hK⟩ := HF.out
    obtain ⟨hS, hs0, hb0, _⟩ := HS.out
    have hg := set3 bR (.int .i64 (Q : Int)) (.int .i64 (i : Int)) (.int .i64 (O : Int))
    have hK2 : (((W.setCell ⟨s0 + 1, 0, none⟩ (.int .i64 (Q : Int))).setCell ⟨s0 + 1, 1, none⟩ (.int .i64 (i : Int))).setCell ⟨s0 + 1, 2, none⟩ (.int .i64 (O : Int))).heap[D]? = some (.deferred (some [])) := by
      rw [block_setCell_other (show D ≠ s0 + 1 by omega), block_setCell_other (show D ≠ s0 + 1 by omega), block_setCell_other (show D ≠ s0 + 1 by omega)]; exact hK
    have hbw : Below s0 w (((W.setCell ⟨s0 + 1, 0, none⟩ (.int .i64 (Q : Int))).setCell ⟨s0 + 1, 1, none⟩ (.int .i64 (i : Int))).setCell ⟨s0 + 1, 2, none⟩ (.int .i64 (O : Int))) :=
      (((hb0.trans (hch.below (by omega) (fun k hk => by have : k = S := hk; omega))).setCell (p := ⟨s0 + 1, 0, none⟩) (by show s0 ≤ s0 + 1; omega) _).setCell (p := ⟨s0 + 1, 1, none⟩) (by show s0 ≤ s0 + 1; omega) _).setCell (p := ⟨s0 + 1, 2, none⟩) (by show s0 ≤ s0 + 1; omega) _
    refine ⟨by simp, .inl ⟨_, _, rfl, run_takeDeferred hK2, ?_⟩⟩
    have hgr := grownBy_putObj' (((W.setCell ⟨s0 + 1, 0, none⟩ (.int .i64 (Q : Int))).setCell ⟨s0 + 1, 1, none⟩ (.int .i64 (i : Int))).setCell ⟨s0 + 1, 2, none⟩ (.int .i64 (O : Int))) D (.deferred none)
    have hg2 := (hgr.block (s0 + 1) (block_lt hg) (fun e => by injection e with e; omega)).trans hg
    refine ⟨_, results_ct results_at _ _ (s0 + 1) 30 _ (0, 0) _ _ rfl rfl hg2 Try.underlying30 rfl (by kernel_rfl), ?_, ?_⟩
    · obtain ⟨h1, h2, h3, h4, h5⟩ := HQ.out
      rw [← h5, ← h1, ← h2, hloc]
      rfl
    · rw [← hs0]
      exact hbw.trans (belowK_b (w := W0) (by omega) _ D _ _ (by rw [hsz]; exact hD) hK2 rfl rfl)
set_option maxRecDepth 100000 in
set_option maxHeartbeats 4000000 in
theorem at_any (w : World) (G : Nat → Prop) (v : Value) (ws : List Wn) (ht : WinV G w v ws) (t : Int) :
    Calls Try.prog 12 #[v, .int .i64 t] w fun e w' => e = .returned (.tuple #[.agg #[.int .i64 (atV ws t).1, .int .i64 (atV ws t).2.1, .int .i64 (atV ws t).2.2.1], .int .i64 (atV ws t).2.2.2]) ∧ Below w.heap.size w w' := by
  by_cases hok : okL ws
  · by_cases hT : isT t
    · obtain ⟨n, hn⟩ : ∃ n : Nat, t = (n : Int) := ⟨t.toNat, by have := hT.1; omega⟩
      subst hn
      have e : atV ws (n : Int) = (((n / lenN ws : Nat) : Int), (((loc (tks ws) (n % lenN ws)).1 : Nat) : Int), (((loc (tks ws) (n % lenN ws)).2 : Nat) : Int), 0) := by unfold atV; rw [if_pos hok, if_pos hT]; rfl
      rw [e]
      exact at_yes w G v ws ht hok n (by have := hT.2; omega)
    · have e : atV ws t = (0, 0, 0, 1) := by unfold atV; rw [if_pos hok, if_neg hT]
      rw [e]
      obtain ⟨w1, hw1⟩ : ∃ w1, w1 = (w.alloc (.cells #[.int .i64 t] 3)).alloc (.cells #[.int .i64 0, .int .i64 0, .int .i64 0] 30) := ⟨_, rfl⟩
      have hb1 : Below w.heap.size w w1 := by rw [hw1]; exact ((Below.refl _ w).alloc (Nat.le_refl _) _).alloc (by simp) _
      have k := len_any w1 G _ ws (ht.below hb1)
      have kt : ∀ W, Calls Try.prog 36 #[.int .i64 t] W fun e w' => e = .returned (.bool false) ∧ W = w' := fun W => by
        have := tick_any W t
        rw [decide_eq_false hT] at this
        exact this
      rw [show chkE ws = 0 from if_pos hok, hw1] at k
      generalize lenV ws = L at *
      have KT := Lib.hid kt
      have c0 : ∀ W, Below w1.heap.size w1 W → W.cell? ⟨w.heap.size, 0, none⟩ = some (.int .i64 t) ∧ W.heap[w.heap.size + 1]? = some (.cells #[.int .i64 0, .int .i64 0, .int .i64 0] 30 (0, 0)) ∧ Below w.heap.size w W := fun W hW => by
        refine ⟨cell_below (by rw [hw1]; exact ((Boxed.new w 3 _).alloc _).cell) hW, ?_, hb1.trans (hW.mono hb1.size)⟩
        rw [hW.block _ (by rw [hw1]; simp), hw1]
        have := block_new (w.alloc (.cells #[.int .i64 t] 3)) (.cells #[.int .i64 0, .int .i64 0, .int .i64 0] 30)
        rw [World.size_alloc] at this; exact this
      rw [hw1] at c0
      have C0 := Lib.hid c0
      obtain ⟨q, n, cap0, rfl⟩ : ∃ q n cap, v = .slice q n cap := by obtain ⟨q, cap, e, _⟩ := ht; exact ⟨_, _, _, e⟩
      clear kt hb1 hw1 c0 ht e hT hok
      go_enter Try.func12, Try.ntmps12
      go_wp2_with (first
        | (go_at_call 8; refine k.mono ?_; rintro e w2 ⟨rfl, hb⟩; obtain ⟨c2, bR, hbw⟩ := C0.out _ hb
           have r0 : w2.cell? ⟨w.heap.size + 1, 0, none⟩ = some (.int .i64 0) := by rw [cell_of_row _ _ _ _ _ _ bR]; rfl
           have r1 : w2.cell? ⟨w.heap.size + 1, 1, none⟩ = some (.int .i64 0) := by rw [cell_of_row _ _ _ _ _ _ bR]; rfl
           have r2 : w2.cell? ⟨w.heap.size + 1, 2, none⟩ = some (.int .i64 0) := by rw [cell_of_row _ _ _ _ _ _ bR]; rfl
           have f0 := block_free (o := 0) bR
           have f1 := block_free (o := 1) bR
           have f2 := block_free (o := 2) bR
           have HB := Lib.hid (And.intro bR hbw)
           clear hb bR hbw)
        | (go_at_call 36; refine (KT.out _).mono ?_; rintro e _ ⟨rfl, rfl⟩))
      exact bodyPost_ret_by (results_ct results_at _ _ (w.heap.size + 1) 30 _ (0, 0) _ _ rfl rfl (set3 HB.out.1 _ _ _) Try.underlying30 rfl (by kernel_rfl)) rfl ⟨rfl, (((HB.out.2.setCell (p := ⟨w.heap.size + 1, 0, none⟩) (Nat.le_succ _) _).setCell (p := ⟨w.heap.size + 1, 1, none⟩) (Nat.le_succ _) _).setCell (p := ⟨w.heap.size + 1, 2, none⟩) (Nat.le_succ _) _)⟩
  · have e : atV ws t = (0, 0, 0, 130) := by unfold atV; rw [if_neg hok]
    rw [e]
    obtain ⟨w1, hw1⟩ : ∃ w1, w1 = (w.alloc (.cells #[.int .i64 t] 3)).alloc (.cells #[.int .i64 0, .int .i64 0, .int .i64 0] 30) := ⟨_, rfl⟩
    have hb1 : Below w.heap.size w w1 := by rw [hw1]; exact ((Below.refl _ w).alloc (Nat.le_refl _) _).alloc (by simp) _
    have k := len_any w1 G _ ws (ht.below hb1)
    rw [show chkE ws = 130 from if_neg hok, hw1] at k
    generalize lenV ws = L at *
    have c0 : ∀ W, Below w1.heap.size w1 W → W.heap[w.heap.size + 1]? = some (.cells #[.int .i64 0, .int .i64 0, .int .i64 0] 30 (0, 0)) ∧ Below w.heap.size w W := fun W hW => by
      refine ⟨?_, hb1.trans (hW.mono hb1.size)⟩
      rw [hW.block _ (by rw [hw1]; simp), hw1]
      have := block_new (w.alloc (.cells #[.int .i64 t] 3)) (.cells #[.int .i64 0, .int .i64 0, .int .i64 0] 30)
      rw [World.size_alloc] at this; exact this
    rw [hw1] at c0
    have C0 := Lib.hid c0
    obtain ⟨q, n, cap0, rfl⟩ : ∃ q n cap, v = .slice q n cap := by obtain ⟨q, cap, e, _⟩ := ht; exact ⟨_, _, _, e⟩
    clear hb1 hw1 c0 ht e hok
    go_enter Try.func12, Try.ntmps12
    go_wp2_with (go_at_call 8; refine k.mono ?_; rintro e w2 ⟨rfl, hb⟩; obtain ⟨bR, hbw⟩ := C0.out _ hb
                 have r0 : w2.cell? ⟨w.heap.size + 1, 0, none⟩ = some (.int .i64 0) := by rw [cell_of_row _ _ _ _ _ _ bR]; rfl
                 have r1 : w2.cell? ⟨w.heap.size + 1, 1, none⟩ = some (.int .i64 0) := by rw [cell_of_row _ _ _ _ _ _ bR]; rfl
                 have r2 : w2.cell? ⟨w.heap.size + 1, 2, none⟩ = some (.int .i64 0) := by rw [cell_of_row _ _ _ _ _ _ bR]; rfl
                 have f0 := block_free (o := 0) bR
                 have f1 := block_free (o := 1) bR
                 have f2 := block_free (o := 2) bR
                 have HB := Lib.hid (And.intro bR hbw)
                 clear hb bR hbw)
    exact bodyPost_ret_by (results_ct results_at _ _ (w.heap.size + 1) 30 _ (0, 0) _ _ rfl rfl (set3 HB.out.1 _ _ _) Try.underlying30 rfl (by kernel_rfl)) rfl ⟨rfl, (((HB.out.2.setCell (p := ⟨w.heap.size + 1, 0, none⟩) (Nat.le_succ _) _).setCell (p := ⟨w.heap.size + 1, 1, none⟩) (Nat.le_succ _) _).setCell (p := ⟨w.heap.size + 1, 2, none⟩) (Nat.le_succ _) _)⟩
end Go.Proofs.Ytgbmddjpaibcfaa
