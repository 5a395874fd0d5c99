/- Are bytes there with a right? Conditions: at most 16 pages that may be, at most 4096 bytes. -/
import Derived.Test.YtedhefidfepclaaItr
namespace Go.Proofs.Ytedhefidfepclaa
open Go.RowKit Go.Maps Go.Shelf
set_option linter.unusedVariables false
attribute [local go_sem] Oper.semAt_some

theorem cell_below {w w' : World} {b o : Nat} {v : Value} (h : w.cell? ⟨b, o, none⟩ = some v) (hb : Below w.heap.size w w') : w'.cell? ⟨b, o, none⟩ = some v := by
  have hlt : b < w.heap.size := block_lt_of_cell h
  simp only [World.cell?, hb.block b hlt]; exact h
set_option maxHeartbeats 1000000 in
theorem pieces_any (n : Nat) (q : Option Addr) (m cap : Nat) (a c : Int) (w : World) :
    CallsIn Fence.wide n Try.prog 63 #[.slice q m cap, .int .i64 a, .int .i64 c] w fun e w' =>
      e = .returned (.func (.func 78) #[] #[.pointer (some ⟨w.heap.size + 1, 0, none⟩), .pointer (some ⟨w.heap.size + 1 + 1, 0, none⟩), .pointer (some ⟨w.heap.size, 0, none⟩)]) ∧
      w' = ((w.alloc (.cells #[.slice q m cap] 50)).alloc (.cells #[.int .i64 a] 3)).alloc (.cells #[.int .i64 c] 3) := by
  refine callsIn_of_wp Try.func63 rfl trivial ?_ rfl
  simp only [Try.ntmps63, List.size_toArray, List.length_cons, List.length_nil, Nat.reduceAdd, Nat.reduceSub, Array.replicate_succ, Array.replicate_zero, List.push_toArray, List.append_toArray, List.nil_append, List.cons_append]
  gi_wp2
  go_ret
  exact ⟨rfl, rfl⟩
/-- what the iterator reads between two rounds -/
def KK (G : Nat → Prop) (s b : Nat) : Nat → Prop := fun k => (G k ∧ k < s) ∨ k = b ∨ k = b + 1 ∨ k = b + 1 + 1
theorem TabV.lt {G : Nat → Prop} {w : World} {v : Value} {ps : List Pg} (h : TabV G w v ps) {s : Nat} (hs : w.heap.size ≤ s) : TabV (fun k => G k ∧ k < s) w v ps := by
  obtain ⟨q, cap, h1, h2, h3⟩ := h
  refine ⟨q, cap, h1, h2, fun hne => ?_⟩
  obtain ⟨b, o, hq, hG, hlt, hc⟩ := h3 hne
  exact ⟨b, o, hq, ⟨hG, by omega⟩, hlt, hc⟩
theorem KS.b {G : Nat → Prop} {s b : Nat} {w : World} (hs : s ≤ w.heap.size) (hb : b + 3 ≤ w.heap.size) (W : World) (l : Nat) (o o' : Obj) (hl : w.heap.size ≤ l) (h : W.heap[l]? = some o) (hc : o.isCells = false) (hw : o.isWalk = false) : KS (KK G s b) W (W.putObj l o') := by
  have hg := grownBy_putObj' W l o'
  refine ⟨hg.size, fun k hk hK => hg.block k hk (fun e => ?_)⟩
  cases e
  unfold KK at hK
  omega
/-- the three boxes as 'pieces' lays them -/
structure Three (W : World) (b : Nat) (v : Value) (a : Int) (n : Nat) : Prop where
  t : W.cell? ⟨b, 0, none⟩ = some v
  a : W.cell? ⟨b + 1, 0, none⟩ = some (.int .i64 a)
  n : W.cell? ⟨b + 1 + 1, 0, none⟩ = some (.int .i64 (n : Int))
theorem pieces_stops (n : Nat) (hn : 1 ≤ n) (b s : Nat) (G : Nat → Prop) (at0 : Int) (n0 : Nat) (hat : In64 at0) (hn0 : n0 ≤ 4096) (v : Value) (ps : List Pg) (hps : ps.length ≤ 16) (Q : Pc → Prop) (hQ : ∀ pre at' m, Gone ps at0 n0 pre at' m → 0 < m → Q (cur ps at' m))
    (w : World) (hb : Three w b v at0 n0) (hT : TabV (fun k => G k ∧ k < s) w v ps) :
    SeqStopsK Fence.wide n Try.prog 78 #[.pointer (some ⟨b + 1, 0, none⟩), .pointer (some ⟨b + 1 + 1, 0, none⟩), .pointer (some ⟨b, 0, none⟩)] (fun x : {x : Pc // Q x} => encP x.1) (KS (KK G s b))
      (fun ys => AllP ps at0 n0 (ys.map (·.1))) (fun pre => SomeP ps at0 n0 (pre.map (·.1))) n0 w := fun l J Jx W hW hJ _ hY h0 =>
  pieces1_in n hn l (b + 1) (b + 1 + 1) b (KK G s b) (fun k => G k ∧ k < s) (.inr (.inr (.inl rfl))) (.inr (.inr (.inr rfl))) (.inr (.inl rfl)) (fun k hk => .inl hk) at0 n0 hat hn0 v ps hps Q hQ J Jx W hJ hY
    (cell_below hb.a hW) (cell_below hb.n hW) (cell_below hb.t hW) (hT.below hW) h0
theorem three_new (w : World) (v : Value) (a : Int) (n : Nat) : Three (((w.alloc (.cells #[v] 50)).alloc (.cells #[.int .i64 a] 3)).alloc (.cells #[.int .i64 (n : Int)] 3)) w.heap.size v a n := by
  have b1 := block_new w (.cells #[v] 50)
  have b2 := block_new (w.alloc (.cells #[v] 50)) (.cells #[.int .i64 a] 3)
  have b3 := block_new ((w.alloc (.cells #[v] 50)).alloc (.cells #[.int .i64 a] 3)) (.cells #[.int .i64 (n : Int)] 3)
  rw [World.size_alloc] at b2
  rw [World.size_alloc, World.size_alloc] at b3
  exact ⟨by rw [cell_of_row _ _ _ _ _ _ (block_alloc (block_alloc b1 _) _)]; rfl, by rw [cell_of_row _ _ _ _ _ _ (block_alloc b2 _)]; rfl, by rw [cell_of_row _ _ _ _ _ _ b3]; rfl⟩

theorem and_has {r R : Int} (hr : 0 ≤ r ∧ r ≤ 7) (hR : R = 1 ∨ R = 2 ∨ R = 4) : (bits .and .i64 r R = 0) ↔ hasR r R = false := by
  have : r = 0 ∨ r = 1 ∨ r = 2 ∨ r = 3 ∨ r = 4 ∨ r = 5 ∨ r = 6 ∨ r = 7 := by omega
  rcases hR with rfl | rfl | rfl <;> rcases this with rfl | rfl | rfl | rfl | rfl | rfl | rfl | rfl <;> decide
set_option maxRecDepth 100000 in
set_option maxHeartbeats 4000000 in
theorem there_any (q : Option Addr) (np cap0 : Nat) (G : Nat → Prop) (ps : List Pg) (w : World) (hT : TabV G w (.slice q np cap0) ps) (hps : ps.length ≤ 16) (hr : ∀ p ∈ ps, 0 ≤ p.2 ∧ p.2 ≤ 7) (at0 : Int) (hat : In64 at0) (n0 : Nat) (hn0 : n0 ≤ 4096) (R : Int) (hR : R = 1 ∨ R = 2 ∨ R = 4) :
    Calls Try.prog 62 #[.slice q np cap0, .int .i64 at0, .int .i64 (n0 : Int), .int .i64 R] w fun e w' => e = .returned (.int .i64 (thereE ps R at0 n0)) ∧ Below w.heap.size w w' := by
  refine (callsIn_wide (n := 9)).1 ?_
  refine callsIn_of_wp_marks Try.func62 rfl trivial ?_ rfl
  simp only [Try.ntmps62, List.size_toArray, List.length_cons, List.length_nil, Nat.reduceAdd, Nat.reduceSub, Array.replicate_succ, Array.replicate_zero, List.push_toArray, List.append_toArray, List.nil_append, List.cons_append]
  gi_wp2_with (refine ⟨trivial, ?_⟩; gi_at_call 63; refine (pieces_any _ _ _ _ _ _ _).mono ?_; rintro e w' ⟨rfl, rfl⟩)
  obtain ⟨W0, hW0⟩ : ∃ W0, W0 = ((((w.alloc (.cells #[.int .i64 R] 3)).alloc (.cells #[.int .i64 0] 25)).alloc (.cells #[.slice q np cap0] 50)).alloc (.cells #[.int .i64 at0] 3)).alloc (.cells #[.int .i64 (n0 : Int)] 3) := ⟨_, rfl⟩
  rw [← hW0]
  obtain ⟨s, hs⟩ : ∃ s, s = w.heap.size := ⟨_, rfl⟩
  obtain ⟨w2, hw2⟩ : ∃ w2, w2 = (w.alloc (.cells #[.int .i64 R] 3)).alloc (.cells #[.int .i64 0] 25) := ⟨_, rfl⟩
  rw [← hw2] at hW0
  have hs2 : w2.heap.size = s + 1 + 1 := by rw [hw2, hs]; simp
  have h3 := three_new w2 (.slice q np cap0) at0 n0
  rw [← hW0, hs2] at h3
  have bR2 : Boxed w2 s 3 (.int .i64 R) := by rw [hw2, hs]; exact (Boxed.new w 3 _).alloc _
  have bE2 : Boxed w2 (s + 1) 25 (.int .i64 0) := by have := Boxed.new (w.alloc (.cells #[.int .i64 R] 3)) 25 (.int .i64 0); rw [World.size_alloc] at this; rw [hw2, hs]; exact this
  have bR : Boxed W0 s 3 (.int .i64 R) := by rw [hW0]; exact ((bR2.alloc _).alloc _).alloc _
  have bE : Boxed W0 (s + 1) 25 (.int .i64 0) := by rw [hW0]; exact ((bE2.alloc _).alloc _).alloc _
  have hsz : W0.heap.size = s + 5 := by rw [hW0]; simp [hs2]
  have hB2 : Below s w w2 := by rw [hw2, hs]; exact ((Below.refl _ w).alloc (Nat.le_refl _) _).alloc (by simp) _
  have hB0 : Below s w W0 := by rw [hW0]; exact ((hB2.alloc (by omega) _).alloc (by simp [hs2]; omega) _).alloc (by simp [hs2]; omega) _
  have hT0 : TabV (fun k => G k ∧ k < s) W0 (.slice q np cap0) ps := by
    have := hT.lt (s := s) (by omega)
    rw [hs] at hB0
    exact this.below hB0
  rw [← hs]
  clear bR2 bE2 hB2 hW0 hw2 hs2 hT
  have HR := Lib.hid hr
  have HS := Lib.hid hs
  clear hr hs
  refine wpIn_rangeFunc_ownH (F := Fence.wide) rfl (by omega) (gf := 78) (lb := #[.pointer (some ⟨s + 1 + 1 + 1, 0, none⟩), .pointer (some ⟨s + 1 + 1 + 1 + 1, 0, none⟩), .pointer (some ⟨s + 1 + 1, 0, none⟩)]) rfl trivial (enters_of Try.func78 (by kernel_rfl) rfl)
    (pieces_stops 8 (by omega) (s + 1 + 1) s G at0 n0 hat hn0 (.slice q np cap0) ps hps (fun x => 0 ≤ x.r ∧ x.r ≤ 7) (fun pre at' m hg hm => ?rights) W0 h3 hT0)
    KS.trans (KS.b (by omega) (by omega)) (Below.refl _ _) (fun _ => rfl)
    (fun pre W => ((∀ x ∈ pre, errP R x.1 = 0) ∧ Boxed W s 3 (.int .i64 R) ∧ Boxed W (s + 1) 25 (.int .i64 0) ∧ s + 5 ≤ W.heap.size) ∧ Below s w W)
    (fun c pre W => (c = .ret ∧ ∃ pre' x, pre = pre' ++ [x] ∧ (∀ y ∈ pre', errP R y.1 = 0) ∧ errP R x.1 ≠ 0 ∧ Boxed W (s + 1) 25 (.int .i64 (errP R x.1))) ∧ Below s w W)
    ?hI ?hIx ⟨⟨fun x hx => (nomatch hx), bR, bE, by omega⟩, hB0⟩
    (fun x a' W => ∃ Bx, s + 5 ≤ Bx ∧ W.heap[Bx]? = some (.cells #[.int .i64 x.1.f, .int .i64 x.1.r, .int .i64 (x.1.a : Int), .int .i64 (x.1.b : Int)] 121 (0, 0)) ∧
      a' = { tmps := #[.slice q np cap0, .int .i64 at0, .int .i64 (n0 : Int), .int .i64 R, undef, undef, undef, .pointer (some ⟨s, 0, none⟩), .pointer (some ⟨s + 1, 0, none⟩), .pointer (some ⟨Bx, 0, none⟩), .slice q np cap0, .int .i64 at0, .int .i64 (n0 : Int),
        .func (.func 78) #[] #[.pointer (some ⟨s + 1 + 1 + 1, 0, none⟩), .pointer (some ⟨s + 1 + 1 + 1 + 1, 0, none⟩), .pointer (some ⟨s + 1 + 1, 0, none⟩)],
        .agg #[.int .i64 x.1.f, .int .i64 x.1.r, .int .i64 (x.1.a : Int), .int .i64 (x.1.b : Int)], undef, undef, undef, undef, undef, undef, undef, undef, undef, undef], defers := [] })
    ?hAx ?assign ?body ?done ?stop
  case rights =>
    unfold cur
    split
    · simp
    · rename_i ho
      exact HR.out _ (pg_mem ho)
  case hI =>
    refine OwnFrom.and (fun pre W W' row h hg hr => ⟨h.1, h.2.1.kept hg ?_, h.2.2.1.kept hg ?_, Nat.le_trans h.2.2.2 hg.size⟩) (ownFrom_below (by have := HS.out; omega) (by omega))
    · intro e; have := (hr _ e.symm).1; omega
    · intro e; have := (hr _ e.symm).1; omega
  case hIx =>
    intro c
    refine OwnFrom.and (fun pre W W' row h hg hr => ?_) (ownFrom_below (by have := HS.out; omega) (by omega))
    obtain ⟨e, pre', x, h1, h2, h3, h4⟩ := h
    exact ⟨e, pre', x, h1, h2, h3, h4.kept hg (fun e => by have := (hr _ e.symm).1; omega)⟩
  case hAx =>
    intro x a' _ W W' row h hg hr
    obtain ⟨Bx, h1, h2, h3⟩ := h
    refine ⟨Bx, h1, ?_, h3⟩
    rw [hg.block Bx (block_lt h2) (fun e => ?_)]; exact h2
    obtain ⟨_, o, ho, hc⟩ := hr _ e.symm
    rw [h2] at ho; cases ho; cases hc
  case assign =>
    rintro l pre x W K hi hK
    have HI := Lib.hid hi
    have HK := Lib.hid hK
    clear hi hK
    dsimp only [encP]
    gi_wp2
    have hW := HI.out.1.2.2.2
    refine HK.out _ _ ((KeepsOthers.alloc _ _).from _) ⟨(World.grownBy_alloc W _ none).size, fun k hk hKk => Below.heap_alloc _ _ _ hk⟩ ⟨⟨HI.out.1.1, HI.out.1.2.1.alloc _, HI.out.1.2.2.1.alloc _, by simp; omega⟩, HI.out.2.alloc (by have := HS.out; omega) _⟩ ⟨W.heap.size, hW, block_new _ _, rfl⟩
  case body =>
    rintro l pre x a' W hl ⟨r, hr⟩ ⟨⟨hg, bR, bE, hW⟩, hB⟩ ⟨Bx, hBx, bX, rfl⟩ hlt
    have hc0 := bR.cell
    have hc1 := bE.cell
    have hf1 := bE.frozen
    have x0 : W.cell? ⟨Bx, 0, none⟩ = some (.int .i64 x.1.f) := by rw [cell_of_row _ _ _ _ _ _ bX]; rfl
    have x1 : W.cell? ⟨Bx, 1, none⟩ = some (.int .i64 x.1.r) := by rw [cell_of_row _ _ _ _ _ _ bX]; rfl
    have ha := and_has x.2 hR
    have HB := Lib.hid (And.intro hg (And.intro bR (And.intro bE (And.intro hW (And.intro hB (And.intro hlt hBx))))))
    have hps1 : ∀ v, Below s W (W.setCell ⟨s + 1, 0, none⟩ v) := fun v => (Below.refl _ W).setCell (p := ⟨s + 1, 0, none⟩) (by show s ≤ s + 1; omega) _
    have HP := Lib.hid hps1
    obtain ⟨bv, hbv⟩ : ∃ bv, bv = bits .and .i64 x.1.r R := ⟨_, rfl⟩
    have hbv2 := hbv.symm
    rw [← hbv] at ha
    clear hg bR bE hW hB hlt hBx hps1 hbv
    have hfin : ∀ e : Int, errP R x.1 = e → e ≠ 0 → Hid (ownPostG W0.heap.size (KS (KK G s (s + 1 + 1))) (fun pre W => ((∀ x : {x : Pc // 0 ≤ x.r ∧ x.r ≤ 7}, x ∈ pre → errP R x.1 = 0) ∧ Boxed W s 3 (.int .i64 R) ∧ Boxed W (s + 1) 25 (.int .i64 0) ∧ s + 5 ≤ W.heap.size) ∧ Below s w W)
        (fun c pre W => (c = .ret ∧ ∃ pre' x, pre = pre' ++ [x] ∧ (∀ y : {x : Pc // 0 ≤ x.r ∧ x.r ≤ 7}, y ∈ pre' → errP R y.1 = 0) ∧ errP R x.1 ≠ 0 ∧ Boxed W (s + 1) 25 (.int .i64 (errP R x.1))) ∧ Below s w W)
        (pre ++ [x]) W Exit.ret { tmps := #[], defers := [] } (W.setCell ⟨s + 1, 0, none⟩ (.int .i64 e))) := by
      intro e he hne
      refine ⟨(KeepsOthers.setCell _ _ _).from _, ⟨rfl, pre, x, rfl, HB.out.1, by rw [he]; exact hne, by rw [he]; exact HB.out.2.2.1.set _⟩, HB.out.2.2.2.2.1.trans (HP.out _)⟩
    by_cases a : x.1.f = -1
    · have he : errP R x.1 = 81 := by unfold errP; rw [if_pos a]
      have HF := hfin 81 he (by decide)
      clear hfin ha
      gi_wp2
      exact HF.out
    · have a' : (x.1.f == -1) = false := by simpa using a
      by_cases b : hasR x.1.r R = true
      · have he : errP R x.1 = 0 := by unfold errP; rw [if_neg a, if_pos b]
        have hz : (bv == 0) = false := by
          simp only [beq_eq_false_iff_ne]
          intro e; rw [ha] at e; rw [e] at b; cases b
        clear hfin ha
        gi_wp2
        refine ⟨KeepsFrom.refl _ _, KS.refl _ _, ⟨⟨fun y hy => ?_, HB.out.2.1, HB.out.2.2.1, HB.out.2.2.2.1⟩, HB.out.2.2.2.2.1⟩⟩
        rcases List.mem_append.1 hy with hy | hy
        · exact HB.out.1 y hy
        · rw [List.mem_singleton.1 hy]; exact he
      · have he : errP R x.1 = 82 := by unfold errP; rw [if_neg a, if_neg b]
        have hz : bv = 0 := ha.2 (by simpa using b)
        have HF := hfin 82 he (by decide)
        clear hfin ha
        subst hz
        gi_wp2
        exact HF.out
  case done =>
    rintro D ys W hD hall ⟨⟨hg, bR, bE, hW⟩, hB⟩ hK
    have he : thereE ps R at0 n0 = 0 := by
      obtain ⟨pre, at', m, hgo, ⟨rfl, e⟩ | ⟨hm, ho, e⟩⟩ := hall
      · rw [hgo.there (R := R) (fun x hx => by rw [← e] at hx; obtain ⟨y, hy, rfl⟩ := List.mem_map.1 hx; exact hg y hy)]; rfl
      · have : cur ps at' m ∈ ys.map (·.1) := by rw [e]; exact List.mem_append_right _ List.mem_cons_self
        obtain ⟨y, hy, e2⟩ := List.mem_map.1 this
        have h0 := hg y hy
        rw [e2, errP_cur] at h0
        exact absurd ho (bad_zero h0).1
    have hc1 := bE.cell
    have hf1 := bE.frozen
    have HB := Lib.hid (And.intro bE (And.intro hW (And.intro hB hD)))
    clear hg bR bE hW hB hD hall
    have HE := Lib.hid he
    clear he
    gi_wp2
    have hE := HB.out.1.set (.int .i64 0)
    have hK2 : (W.setCell ⟨s + 1, 0, none⟩ (.int .i64 0)).heap[D]? = some (.deferred (some [])) := (KeepsOthers.setCell _ _ _).same D _ hK rfl
    refine ⟨by simp, .inl ⟨_, _, rfl, run_takeDeferred hK2, ?_⟩⟩
    have hE2 := hE.kept (grownBy_putObj' _ D (.deferred none)) (fun e => by cases e; rw [show (W.setCell ⟨s + 1, 0, none⟩ (.int .i64 0)).heap[s + 1]? = _ from hE] at hK2; cases hK2)
    have hc5 := hE2.cell
    refine ⟨.int .i64 (0), ?_, by rw [HE.out], ?_⟩
    · simp [results, Try.f62, go_sem, hc5]
    rw [← HS.out]
    exact (HB.out.2.2.1.setCell (p := ⟨s + 1, 0, none⟩) (by show s ≤ s + 1; omega) _).trans (belowK_b (w := W0) (by omega) _ D _ _ HB.out.2.2.2 hK2 rfl rfl)
  case stop =>
    rintro D c pre W hD hsm ⟨⟨rfl, pre', x, rfl, hg, hne, bE⟩, hB⟩ hK
    have he : thereE ps R at0 n0 = errP R x.1 := by
      obtain ⟨pr, at', m, hgo, hm, e⟩ := hsm
      rw [List.map_append, List.map_cons, List.map_nil] at e
      obtain ⟨e1, e2⟩ := List.append_inj' e rfl
      have e3 : x.1 = cur ps at' m := by injection e2
      rw [hgo.there (R := R) (fun y hy => by rw [← e1] at hy; obtain ⟨z, hz, rfl⟩ := List.mem_map.1 hy; exact hg z hz)]
      rw [e3, errP_cur] at hne ⊢
      exact thereE_hd hm hne
    have hc1 := bE.cell
    have hf1 := bE.frozen
    have HB := Lib.hid (And.intro bE (And.intro hB hD))
    clear hg bE hB hD hsm hne
    have HE := Lib.hid he
    clear he
    gi_wp2
    have hE := HB.out.1
    refine ⟨by simp, .inl ⟨_, _, rfl, run_takeDeferred hK, ?_⟩⟩
    have hE2 := hE.kept (grownBy_putObj' _ D (.deferred none)) (fun e => by cases e; rw [show W.heap[s + 1]? = _ from hE] at hK; cases hK)
    have hc5 := hE2.cell
    refine ⟨.int .i64 (errP R x.1), ?_, by rw [HE.out], ?_⟩
    · simp [results, Try.f62, go_sem, hc5]
    rw [← HS.out]
    exact HB.out.2.1.trans (belowK_b (w := W0) (by omega) _ D _ _ HB.out.2.2 hK rfl rfl)
end Go.Proofs.Ytedhefidfepclaa
