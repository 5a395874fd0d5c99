/- Bytes read through a table, where they are there. Conditions: numbers that a machine holds. -/
import Derived.Test.YtedhefidfepclaaRda
import Derived.Test.YtedhefidfepclaaRbx
namespace Go.Proofs.Ytedhefidfepclaa
open Go.RowKit Go.Maps Go.Shelf
set_option linter.unusedVariables false
attribute [local go_sem] Oper.semAt_some

theorem Try.info5 : (Try.prog.info? 5).map (fun i => (i.zero, i.size, i.bytes)) = some (some (.int .u8 0), 1, 1) := by kernel_rfl
theorem wpListIn_append_run {F : Fence} {n : Nat} {ops : Array Oper} {rest : List Oper} {o : Oper} {a : Act} {w : World} {Q : Exit → Act → World → Prop} (hgd : o.guard = none) (s x : Operand) (t : TypeId)
    (ho : o.op = .call { callee := .builtin .append, args := #[s, x], argTypes := #[t, t] }) (vs vx v' : Value) (w' : World) (hs : a.eval s = vs) (hx : a.eval x = vx)
    (hr : (Builtin.append_ #[t, t] o.type #[vs, vx]).run Try.prog w = .ok v' w') (hk : wpListIn F n Try.prog ops Q rest (a.put o.dst v') w') : wpListIn F n Try.prog ops Q (o :: rest) a w := by
  refine wpListIn_plain hgd fun K hK => ?_
  unfold Oper.wpIn
  refine ⟨?_, ?_⟩
  · simp [Oper.about, ho, resolve, Target.leads, Sem.run_pure]
  · rw [Oper.semAt_plain F _ _ (by rw [ho]; intro c hc'; cases hc')]
    simp [execOp, ho, resolve, invoke, builtin, hs, hx, hr, Result.andThen]
    exact hK _ _ hk
theorem wpIn_round_drew {P : Program} {l n : Nat} {w : World} {id : Nat} {Q : Exit → Act → World → Prop} {a : Act} {l0 : List Oper} (k : Nat) (hm : P.follows .mixedOrders = true) (hB : Region.lexTailB .any l0.toArray k = true) (hnd : noDefer l0 = true)
    (h : wpStill P l0.toArray w.drew (fun a' => wpListIn (Fence.wide.inRound l) n P l0.toArray Q (l0.drop k) a' w.drew) (l0.take k) a) :
    (Code.region id l0.toArray true).wpIn (Fence.wide.inRound l) n P Q a w := wpIn_round_tail k hm hB hnd h
theorem setCell_size (w : World) (a : Addr) (v : Value) : (w.setCell a v).heap.size = w.heap.size := by simp [World.setCell]
/-- what has been read -/
def got {Q : Pc → Prop} (B : Bts) (pre : List {x : Pc // Q x}) : Bts := (pre.map (·.1)).flatMap (seg B)
theorem got_snoc {Q : Pc → Prop} (B : Bts) (pre : List {x : Pc // Q x}) (x : {x : Pc // Q x}) : got B (pre ++ [x]) = got B pre ++ seg B x.1 := by simp [got]
def okPc (F : Nat) (x : Pc) : Prop := 0 ≤ x.f ∧ x.f < F ∧ x.a ≤ x.b ∧ x.b ≤ 256
theorem seg_len {F : Nat} {B : Bts} (hB : B.length = 256 * F) {x : Pc} (hx : okPc F x) : (seg B x).length = x.b - x.a := by
  obtain ⟨h1, h2, h3, h4⟩ := hx
  unfold seg
  rw [List.length_take, List.length_drop]
  omega
theorem got_len {F : Nat} {B : Bts} (hB : B.length = 256 * F) (pre : List {x : Pc // okPc F x}) : (got B pre).length ≤ 256 * pre.length := by
  induction pre with
  | nil => simp [got]
  | cons x pre ih =>
    have := seg_len hB x.2
    obtain ⟨h1, h2, h3, h4⟩ := x.2
    have e : got B (x :: pre) = seg B x.1 ++ got B pre := by simp [got]
    rw [e, List.length_append, List.length_cons]
    omega
theorem cur_ok {F : Nat} {ps : List Pg} {R at0 : Int} {n0 : Nat} (hc : chk F ps = 0) (h0 : thereE ps R at0 n0 = 0) (pre : List Pc) (at' : Int) (m : Nat) (hg : Gone ps at0 n0 pre at' m) (hm : 0 < m) : okPc F (cur ps at' m) := by
  have hb := good_bad hm (hg.good h0)
  have hp := pos_lt hc hb
  have hi := (bad_zero hb).1
  have he := ext_pos (at' := at') hm
  have ec : cur ps at' m = ⟨(pg ps at').1, (pg ps at').2, (at' % 256).toNat, (at' % 256).toNat + ext at' m⟩ := if_neg hi
  rw [ec]
  exact ⟨hp.1, hp.2.1, Nat.le_add_right _ _, he.2.2⟩
def RI (w : World) (B : Bts) (F p s S3 n1 : Nat) (pre : List {x : Pc // okPc F x}) (W : World) : Prop :=
  (Boxed W s 63 (.pointer (some ⟨p, 0, none⟩)) ∧ ∃ gb cp, Boxed W S3 97 (.slice (some ⟨gb, 0, none⟩) (got B pre).length cp) ∧
    W.ownsRow s 5 1 (.slice (some ⟨gb, 0, none⟩) (got B pre).length cp) (got B pre).length ((got B pre).map cellB) ∧ (gb < S3 ∨ n1 ≤ gb) ∧ s < gb) ∧ n1 ≤ W.heap.size ∧ Below s w W
theorem RI.own {w : World} {B : Bts} {F p s S3 n1 : Nat} (hs : s ≤ w.heap.size) (hS : S3 < n1) (hs2 : s < S3) : OwnFrom n1 (RI w B F p s S3 n1) := by
  intro pre W W' row h hg hr
  obtain ⟨⟨h1, gb, cp, h2, h3, h4, h5⟩, h6, h7⟩ := h
  have hne : ∀ k, k < n1 → some k ≠ row := fun k hk e => by have := (hr _ e.symm).1; omega
  refine ⟨⟨h1.kept hg (hne s (by omega)), gb, cp, h2.kept hg (hne S3 hS), h3.kept hg (.inr ?_), h4, h5⟩, Nat.le_trans h6 hg.size, h7.grown hg (Nat.le_trans hs h7.size) (fun k e => by have := (hr k e).1; omega)⟩
  intro e
  obtain ⟨_, o, ho, hc⟩ := hr gb (by rw [← e]; rfl)
  rcases h3.2 with ⟨e2, _⟩ | ⟨g', _, cur, e2, _, hgb, _⟩
  · cases e2
  · injection e2 with e3
    have e4 : gb = g' := by injection e3 with e3; injection e3
    subst e4
    rw [hgb] at ho; cases ho; cases hc
set_option maxRecDepth 100000 in
set_option maxHeartbeats 4000000 in
theorem read_ok (p g cap F : Nat) (B : Bts) (w : World) (h : IsM w p g cap F B) (G : Nat → Prop) (v : Value) (ps : List Pg) (ht : TabV G w v ps) (a : Int) (m : Nat) (R : Int) (ha : In64 a) (h0 : readE F ps a m R = 0) :
    Calls Try.prog 40 #[.pointer (some ⟨p, 0, none⟩), v, .int .i64 a, .int .i64 (m : Int), .int .i64 R] w fun e w' => e = .returned (.tuple #[.string (ofL (rd ps B a m)), .int .i64 0]) ∧ Below w.heap.size w w' := by
  obtain ⟨q, np, cap0, rfl⟩ : ∃ q n cap, v = .slice q n cap := by obtain ⟨q, cap, e, _⟩ := ht; exact ⟨_, _, _, e⟩
  have c0 : chk F ps = 0 := by unfold readE at h0; split at h0; assumption; contradiction
  unfold readE at h0
  rw [if_pos c0] at h0
  have s0 : sizeOk m R := by split at h0; assumption; cases h0
  rw [if_pos s0, Int.toNat_natCast] at h0
  unfold sizeOk at s0
  have hps := (chk_mem c0).1
  have hrr := chk_rights c0
  obtain ⟨w1, hw1⟩ : ∃ w1, w1 = w.alloc (.cells #[.pointer (some ⟨p, 0, none⟩)] 63) := ⟨_, rfl⟩
  have hb1 : Below w.heap.size w w1 := by rw [hw1]; exact (Below.refl _ w).alloc (Nat.le_refl _) _
  have bM : Boxed w1 w.heap.size 63 (.pointer (some ⟨p, 0, none⟩)) := by rw [hw1]; exact Boxed.new _ _ _
  have hs1 : w1.heap.size = w.heap.size + 1 := by rw [hw1]; simp
  have kc := check_any p g cap F B w1 (h.below hb1) G (.slice q np cap0) ps (ht.below hb1)
  rw [c0] at kc
  have HT : Hid (∀ W, Below w1.heap.size w1 W → Calls Try.prog 62 #[.slice q np cap0, .int .i64 a, .int .i64 (m : Int), .int .i64 R] W fun e w' => e = .returned (.int .i64 0) ∧ Below W.heap.size W w') :=
    fun W hW => by have := there_any q np cap0 G ps W (ht.below (hb1.trans (hW.mono hb1.size))) hps hrr a ha m (by omega) R (by omega); rw [h0] at this; exact this
  have cM := bM.cell
  obtain ⟨i0, hi, hz0, hz1, hz2⟩ := info_parts Try.info5
  have hmk := fun (W : World) (hW : w.heap.size ≤ W.heap.size) => run_makeSlice_owned (P := Try.prog) W w.heap.size 97 5 i0 (.int .u8 0) 1 Try.underlying97 hi hz0 hz1 .i64 .i64 m (by omega) (by rw [hz2]; omega) (by unfold maxLen; omega) hW
  have H := Lib.hid (And.intro h (And.intro ht (And.intro hb1 (And.intro bM (And.intro hps (And.intro hrr (And.intro hs1 (And.intro c0 h0))))))))
  have HI := Lib.hid (And.intro hi (And.intro hz0 (And.intro hz1 hz2)))
  have HM := Lib.hid hmk
  have HW1 := Lib.hid hw1
  have hmB : (m : Int) ≤ 4096 := s0.2.1
  have hR := s0.2.2
  clear h ht hb1 bM c0 h0 s0 hps hrr hs1 hi hz0 hz1 hz2 hmk
  rw [hw1] at kc cM HT
  clear hw1
  refine (callsIn_wide (n := 9)).1 ?_
  refine callsIn_of_wp_marks Try.func40 rfl trivial ?_ rfl
  simp only [Try.ntmps40, List.size_toArray, List.length_cons, List.length_nil, Nat.reduceAdd, Nat.reduceSub, Array.replicate_succ, Array.replicate_zero, List.push_toArray, List.append_toArray, List.nil_append, List.cons_append]
  rcases hR with rfl | rfl
  · gi_wp2_with (first
      | (refine ⟨trivial, ?_⟩; gi_at_call 61; refine (callsIn_wide.2 kc).mono ?_; rintro e w' ⟨rfl, hb⟩; have HB := Lib.hid hb; clear kc)
      | (refine ⟨trivial, ?_⟩; gi_at_call 62; refine (callsIn_wide.2 (HT.out _ HB.out)).mono ?_; rintro e w'' ⟨rfl, hb'⟩; have HB' := Lib.hid hb'; clear hb'; obtain ⟨w3, hrun, hown, hgr⟩ := HM.out w'' (by have := HB'.out.size; have := HB.out.size; simp at this; omega); have HO := Lib.hid (And.intro hown hgr); clear hown hgr)
      | (refine ⟨trivial, ?_⟩; gi_at_call 63; refine (pieces_any _ _ _ _ _ _ _).mono ?_; rintro e w' ⟨rfl, rfl⟩))
    obtain ⟨h, ht, hb1, bM, hps, hrr, hs1, c0, h0⟩ := H.out
    have hbw : Below w.heap.size w w'' := by
      have b1 := HB.out
      rw [← HW1.out] at b1
      have b2 := hb1.trans (b1.mono hb1.size)
      exact b2.trans (HB'.out.mono b2.size)
    have hb3 : Below w.heap.size w w3 := hbw.grown HO.out.2 hbw.size (fun k e => by cases e)
    have bM3 : Boxed w3 w.heap.size 63 (.pointer (some ⟨p, 0, none⟩)) := by
      have b1 := HB.out
      rw [← HW1.out] at b1
      have l1 : w.heap.size < w1.heap.size := by omega
      have e1 := b1.block w.heap.size l1
      have e2 := HB'.out.block w.heap.size (by have := b1.size; omega)
      have e3 := HO.out.2.block w.heap.size (by have := b1.size; have := HB'.out.size; omega) (fun e => by cases e)
      exact (e3.trans (e2.trans e1)).trans bM
    have hS3 : w''.heap.size < w3.heap.size := by
      rcases HO.out.1.2 with ⟨e, _⟩ | ⟨g', _, _, e, _, hg', _⟩
      · cases e
      · injection e with e; injection e with e; injection e with e; subst e; exact block_lt hg'
    have hsw : w.heap.size < w''.heap.size := by
      have b1 := HB.out
      rw [← HW1.out] at b1
      have := b1.size; have := HB'.out.size; omega
    obtain ⟨S3, hS3e⟩ : ∃ S3, S3 = w3.heap.size := ⟨_, rfl⟩
    obtain ⟨s, hs⟩ : ∃ s, s = w.heap.size := ⟨_, rfl⟩
    obtain ⟨g0, hg0⟩ : ∃ g0, g0 = w''.heap.size := ⟨_, rfl⟩
    obtain ⟨w4, hw4⟩ : ∃ w4, w4 = w3.alloc (.cells #[.slice (some ⟨g0, 0, none⟩) 0 m] 97) := ⟨_, rfl⟩
    obtain ⟨W0, hW0⟩ : ∃ W0, W0 = ((w4.alloc (.cells #[.slice q np cap0] 50)).alloc (.cells #[.int .i64 a] 3)).alloc (.cells #[.int .i64 (m : Int)] 3) := ⟨_, rfl⟩
    rw [← hg0, ← hw4, ← hW0, ← hS3e, ← hs]
    have hs4 : w4.heap.size = S3 + 1 := by rw [hw4, hS3e]; simp
    have h3 := three_new w4 (.slice q np cap0) a m
    rw [← hW0, hs4] at h3
    have hsz : W0.heap.size = S3 + 4 := by rw [hW0]; simp [hs4]
    have hb4 : Below s w W0 := by
      rw [hW0, hw4, hs]
      refine (((hb3.alloc hb3.size _).alloc ?_ _).alloc ?_ _).alloc ?_ _ <;> (simp; have := hb3.size; omega)
    have bM0 : Boxed W0 s 63 (.pointer (some ⟨p, 0, none⟩)) := by rw [hW0, hw4, hs]; exact (((bM3.alloc _).alloc _).alloc _).alloc _
    have bB0 : Boxed W0 S3 97 (.slice (some ⟨g0, 0, none⟩) 0 m) := by rw [hW0, hw4, hS3e]; exact (((Boxed.new w3 97 _).alloc _).alloc _).alloc _
    have own0 : W0.ownsRow s 5 1 (.slice (some ⟨g0, 0, none⟩) 0 m) 0 [] := by
      have := HO.out.1
      rw [← hg0, ← hs] at this
      rw [hW0, hw4]
      exact (((this.alloc _).alloc _).alloc _).alloc _
    have hT0 : TabV (fun k => G k ∧ k < s) W0 (.slice q np cap0) ps := by
      rw [hs]
      exact (ht.lt (Nat.le_refl _)).below (by rw [← hs]; exact hb4)
    have hiM : IsM w p g cap F B := h
    have hlt := hiM.lt
    have HF := Lib.hid (And.intro hs (And.intro hS3e (And.intro hg0 (And.intro hiM (And.intro c0 h0)))))
    have hgS : g0 < S3 ∧ s < g0 := by omega
    refine range_boxed (bs := 15) (n1 := S3 + 4) (b := S3 + 1) (s := s) G a m ha (by omega) (.slice q np cap0) ps hps (okPc F) (cur_ok c0 h0) rfl h3 hT0 (by omega) (by omega) hsz
      (RI w B F p s S3 (S3 + 4)) (fun _ _ _ => False) (RI.own (by omega) (by omega) (by omega)) (fun c _ _ _ _ h _ _ => h)
      ⟨⟨bM0, g0, m, bB0, own0, .inl hgS.1, by omega⟩, by omega, hb4⟩ (fun pre W h => h.2.1) ?assign ?alloc ?body ?done (fun _ _ _ _ _ _ h _ => h.elim)
    case assign =>
      intro l pre x W K hi hK
      have HI := Lib.hid hi
      have HK := Lib.hid hK
      clear hi hK hs hS3e hg0 hw4 hW0 hs4 hsz hrun cM hS3 hsw
      dsimp only [encP]
      gi_wp2
      have hk := HK.out
      simp only [rtmps, pcells, List.setIfInBounds_toArray, List.set_cons_succ, List.set_cons_zero] at hk
      exact hk
    case alloc =>
      rintro pre W o ⟨⟨h1, gb, cp, h2, h3, h4, h5⟩, h6, h7⟩
      exact ⟨⟨h1.alloc _, gb, cp, h2.alloc _, h3.alloc _, h4, h5⟩, by simp; omega, h7.alloc (by omega) _⟩
    case body =>
      rintro l pre x Bx W hl ⟨r, hr⟩ ⟨⟨h1, gb, cp, h2, h3, h4, h5⟩, h6, h7⟩ hBx bX hlt
      have hmW := h.below (by rw [hs] at h7; exact h7)
      obtain ⟨x1, x2, x3, x4⟩ := x.2
      obtain ⟨i, hi⟩ : ∃ i : Nat, x.1.f = (i : Int) := ⟨x.1.f.toNat, by omega⟩
      have cB : W.drew.cell? ⟨S3, 0, none⟩ = some (.slice (some ⟨gb, 0, none⟩) (got B pre).length cp) := h2.cell
      clear cM
      have cM : W.drew.cell? ⟨s, 0, none⟩ = some (.pointer (some ⟨p, 0, none⟩)) := h1.cell
      have cF : W.drew.cell? ⟨p, 0, none⟩ = some (.slice (some ⟨g, 0, none⟩) F cap) := hmW.cell
      have y0 : W.drew.cell? ⟨Bx, 0, none⟩ = some (.int .i64 (i : Int)) := by rw [← hi]; show W.cell? _ = _; rw [cell_of_row _ _ _ _ _ _ bX]; rfl
      have y2 : W.drew.cell? ⟨Bx, 2, none⟩ = some (.int .i64 (x.1.a : Int)) := by show W.cell? _ = _; rw [cell_of_row _ _ _ _ _ _ bX]; rfl
      have y3 : W.drew.cell? ⟨Bx, 3, none⟩ = some (.int .i64 (x.1.b : Int)) := by show W.cell? _ = _; rw [cell_of_row _ _ _ _ _ _ bX]; rfl
      have hsl := slice_arr2 g (i * 256) x.1.a x.1.b x3 x4 W.drew
      have hiF : i < F := by omega
      have hseg := seg_len h.len x.2
      have hgl := got_len h.len pre
      obtain ⟨L, hL⟩ : ∃ L, L = (got B pre).length := ⟨_, rfl⟩
      obtain ⟨A, hA⟩ : ∃ A, A = cutAt (i * 256) x.1.a := ⟨_, rfl⟩
      obtain ⟨E, hE⟩ : ∃ E, E = x.1.b - x.1.a := ⟨_, rfl⟩
      have hnews : ∀ j u, ((seg B x.1).map cellB)[j]? = some u → W.drew.cell? ((⟨g, A, none⟩ : Addr).add j) = some u := by
        intro j u hu
        have hjl : j < (seg B x.1).length := by
          rcases Nat.lt_or_ge j (seg B x.1).length with q | q
          · exact q
          · rw [List.getElem?_eq_none (by simpa using q)] at hu; cases hu
        have ha2 : A = 256 * i + x.1.a := by rw [hA]; unfold cutAt; rw [if_neg (by omega)]; omega
        have hrow : RowB 114 W.drew g (cap * 256) B := hmW.row
        refine take_of_row hrow A j u ?_
        rw [← hu, List.getElem?_map, List.getElem?_map, ha2]
        congr 1
        unfold seg
        rw [List.getElem?_take, if_pos (by rw [← hseg]; exact hjl), hi, Int.toNat_natCast]
      obtain ⟨j1, j2, j3, j4⟩ := HI.out
      obtain ⟨v', W1, hap, hown', hgr', hnil, hloc⟩ := run_append_own_at (P := Try.prog) (w := W.drew) s 97 97 5 i0 (.int .u8 0) 1 1 Try.underlying97 j1 j2 j3 j4 rfl (by omega) _ _ _ (show W.drew.ownsRow s 5 1 _ _ _ from h3) ⟨g, A, none⟩ E (256 - x.1.a) ((seg B x.1).map cellB) (by rw [List.length_map, hseg, hE]; omega)
        hnews (by intro u hu; obtain ⟨b, _, rfl⟩ := List.mem_map.1 hu; rfl) (by unfold maxLen; omega) (by omega) (by have := h7.size; show s ≤ W.heap.size; omega)
      obtain ⟨gb', n', cp', rfl⟩ : ∃ gb' n' cp', v' = .slice (some ⟨gb', 0, none⟩) n' cp' := by
        rcases hown'.2 with ⟨e, _⟩ | ⟨_, _, _, e, _⟩
        · rw [e] at hnil; simp at hnil
        · exact ⟨_, _, _, e⟩
      obtain rfl : n' = L + E := by
        rcases hown'.2 with ⟨e, _⟩ | ⟨_, _, _, e, _⟩
        · cases e
        · injection e with _ e2; omega
      have hne1 : S3 ≠ gb := by omega
      have bB1 : Boxed W1 S3 97 (.slice (some ⟨gb, 0, none⟩) L cp) := by
        rw [hL]
        exact (show Boxed W.drew S3 97 _ from h2).kept hgr' (fun e => hne1 (by simpa [Value.ownBlock] using e))
      have cB1 := bB1.cell
      have fB1 := bB1.frozen
      have hgb : ∃ o : Obj, W.drew.heap[gb]? = some o ∧ o.isCells = true := by
        rcases h3.2 with ⟨e, _⟩ | ⟨g', _, cur, e, _, hg', _⟩
        · cases e
        · injection e with e; injection e with e; injection e with e; subst e; exact ⟨_, hg', rfl⟩
      have HW := Lib.hid (And.intro h1 (And.intro h2 (And.intro h3 (And.intro h4 (And.intro h5 (And.intro h6 (And.intro h7 (And.intro hBx bX))))))))
      have HO2 := Lib.hid (And.intro hown' (And.intro hgr' (And.intro hloc (And.intro hseg (And.intro hE hL)))))
      rw [← hL] at cB hap
      rw [← hA, ← hE] at hsl
      have HG := Lib.hid (And.intro hgb bB1)
      clear hgb bB1
      clear hs hS3e hg0 hw4 hW0 hs4 hsz hrun hS3 hsw hs1
      clear h1 h2 h3 h4 h5 h6 h7 hBx bX hown' hgr' hnil hloc hnews hseg hgl hE hA hL j1 j2 j3 j4 x1 x2
      simp only [rtmps, pcells, List.setIfInBounds_toArray, List.set_cons_succ, List.set_cons_zero]
      gi_wp2
      refine wpIn_round_drew 14 (by kernel_rfl) (by kernel_rfl) (by kernel_rfl) ?_
      simp only [List.take_succ_cons, List.take_zero, List.drop_succ_cons, List.drop_zero]
      repeat still_step
      try refine wpStill_nil ?_
      gi_wp2_with (gi_at_builtin; refine wpListIn_append_run rfl (.tmp 51) (.tmp 64) 97 rfl _ _ _ _ rfl rfl hap ?_)
      obtain ⟨h1, h2, h3, h4, h5, h6, h7, hBx, bX⟩ := HW.out
      obtain ⟨hown', hgr', hloc, hseg, hE, hL⟩ := HO2.out
      obtain ⟨⟨o, ho1, ho2⟩, bB1⟩ := HG.out
      obtain ⟨hs, hS3e, hg0, _, _, _⟩ := HF.out
      have hgk : ∀ k, k < W.heap.size → k ≠ gb → k ≠ S3 → (W1.setCell ⟨S3, 0, none⟩ (.slice (some ⟨gb', 0, none⟩) (L + E) cp')).heap[k]? = W.heap[k]? := by
        intro k hk h1 h2
        rw [block_setCell_other (show k ≠ S3 from h2)]
        exact hgr'.block k hk (fun e => h1 (by simpa [Value.ownBlock] using e))
      have hszW : W.heap.size ≤ W1.heap.size := hgr'.size
      have hlen : L + E = (got B (pre ++ [x])).length := by rw [got_snoc, List.length_append, hseg, hL, hE]
      have hSn : some S3 ≠ some gb' := by
        intro e
        have e := Option.some.inj e
        rcases hloc with q | q
        · have e2 : gb' = gb := by simpa [Value.ownBlock] using q
          omega
        · have e2 : gb' = W.heap.size := by simpa [Value.ownBlock] using q
          have := h2.lt
          omega
      refine ⟨(((KeepsOthers.drew W).trans (KeepsOthers.of_grownBy hgr' (fun j o' ej hj => ?_))).trans (KeepsOthers.setCell _ _ _)).from _, ⟨by rw [setCell_size]; exact hszW, fun k hk hK => ?_⟩, ⟨?_, ?_⟩, ?_, ?_⟩
      · have e2 : j = gb := by have : some gb = some j := ej; exact (Option.some.inj this).symm
        subst e2
        rw [ho1] at hj; cases hj; exact ho2
      · unfold KK at hK
        exact hgk k hk (by omega) (by omega)
      · have e1 := hgk s (by omega) (by omega) (by omega)
        exact e1.trans h1
      · refine ⟨gb', cp', ?_, ?_, ?_, ?_⟩
        · rw [← hlen]; exact bB1.set _
        · rw [← hL] at hown'
          rw [← hlen, got_snoc, List.map_append]
          exact hown'.kept (grownBy_setCell' W1 S3 _) (.inr (fun e => hSn e.symm))
        · rcases hloc with q | q
          · have e2 : gb' = gb := by simpa [Value.ownBlock] using q
            omega
          · have e2 : gb' = W.heap.size := by simpa [Value.ownBlock] using q
            omega
        · rcases hloc with q | q
          · have e2 : gb' = gb := by simpa [Value.ownBlock] using q
            omega
          · have e2 : gb' = W.heap.size := by simpa [Value.ownBlock] using q
            omega
      · rw [setCell_size]; omega
      · have hd : Below s w W.drew := ⟨h7.os, h7.tape, h7.output, h7.size, h7.block⟩
        refine Below.setCell (p := ⟨S3, 0, none⟩) (hd.grown hgr' (by show s ≤ W.heap.size; omega) (fun k e => ?_)) (by show s ≤ S3; omega) _
        have : some gb = some k := e
        have := Option.some.inj this
        omega
    case done =>
      rintro D ys W hD hall ⟨⟨h1, gb, cp, h2, h3, h4, h5⟩, h6, h7⟩ hK
      have hrd : got B ys = rd ps B a m := hall.read h.len c0 h0
      have hc1 := h2.cell
      rcases h3.2 with ⟨e, _⟩ | ⟨g', c', cur, e, hg1, hg2, hg3, hg4, hg5, hg6⟩
      · cases e
      · injection e with e e'' e3
        injection e with e
        injection e with e
        subst e e3
        have hrow : RowB 5 W gb cp (got B ys) := ⟨cur, (0, 0), hg2, .inl rfl, hg3, by omega, by rw [← Nat.mul_one (got B ys).length]; exact hg6⟩
        have hcv := hrow.string (w' := W) 0 (got B ys).length cp (by omega)
        rw [List.drop_zero, List.take_length] at hcv
        have HD := Lib.hid (And.intro h7 (And.intro hD (And.intro hrd hsz)))
        clear h1 h2 h3 h4 h5 h6 h7 hD hrow hg2 hg6 hall hrd
        clear hs hS3e hg0 hw4 hW0 hs4 hsz hrun hS3 hsw hs1
        gi_wp2
        refine ⟨by simp, .inl ⟨_, _, rfl, run_takeDeferred hK, ?_⟩⟩
        refine ⟨_, results_tmp2 rfl _ _ _, by rw [← HD.out.2.2.1]; rfl, ?_⟩
        rw [← HF.out.1]
        exact HD.out.1.trans (belowK_b (w := W0) (by rw [HD.out.2.2.2]; have := hgS; omega) _ D _ _ (by rw [HD.out.2.2.2]; exact HD.out.2.1) hK rfl rfl)
  · gi_wp2_with (first
      | (refine ⟨trivial, ?_⟩; gi_at_call 61; refine (callsIn_wide.2 kc).mono ?_; rintro e w' ⟨rfl, hb⟩; have HB := Lib.hid hb; clear kc)
      | (refine ⟨trivial, ?_⟩; gi_at_call 62; refine (callsIn_wide.2 (HT.out _ HB.out)).mono ?_; rintro e w'' ⟨rfl, hb'⟩; have HB' := Lib.hid hb'; clear hb'; obtain ⟨w3, hrun, hown, hgr⟩ := HM.out w'' (by have := HB'.out.size; have := HB.out.size; simp at this; omega); have HO := Lib.hid (And.intro hown hgr); clear hown hgr)
      | (refine ⟨trivial, ?_⟩; gi_at_call 63; refine (pieces_any _ _ _ _ _ _ _).mono ?_; rintro e w' ⟨rfl, rfl⟩))
    obtain ⟨h, ht, hb1, bM, hps, hrr, hs1, c0, h0⟩ := H.out
    have hbw : Below w.heap.size w w'' := by
      have b1 := HB.out
      rw [← HW1.out] at b1
      have b2 := hb1.trans (b1.mono hb1.size)
      exact b2.trans (HB'.out.mono b2.size)
    have hb3 : Below w.heap.size w w3 := hbw.grown HO.out.2 hbw.size (fun k e => by cases e)
    have bM3 : Boxed w3 w.heap.size 63 (.pointer (some ⟨p, 0, none⟩)) := by
      have b1 := HB.out
      rw [← HW1.out] at b1
      have l1 : w.heap.size < w1.heap.size := by omega
      have e1 := b1.block w.heap.size l1
      have e2 := HB'.out.block w.heap.size (by have := b1.size; omega)
      have e3 := HO.out.2.block w.heap.size (by have := b1.size; have := HB'.out.size; omega) (fun e => by cases e)
      exact (e3.trans (e2.trans e1)).trans bM
    have hS3 : w''.heap.size < w3.heap.size := by
      rcases HO.out.1.2 with ⟨e, _⟩ | ⟨g', _, _, e, _, hg', _⟩
      · cases e
      · injection e with e; injection e with e; injection e with e; subst e; exact block_lt hg'
    have hsw : w.heap.size < w''.heap.size := by
      have b1 := HB.out
      rw [← HW1.out] at b1
      have := b1.size; have := HB'.out.size; omega
    obtain ⟨S3, hS3e⟩ : ∃ S3, S3 = w3.heap.size := ⟨_, rfl⟩
    obtain ⟨s, hs⟩ : ∃ s, s = w.heap.size := ⟨_, rfl⟩
    obtain ⟨g0, hg0⟩ : ∃ g0, g0 = w''.heap.size := ⟨_, rfl⟩
    obtain ⟨w4, hw4⟩ : ∃ w4, w4 = w3.alloc (.cells #[.slice (some ⟨g0, 0, none⟩) 0 m] 97) := ⟨_, rfl⟩
    obtain ⟨W0, hW0⟩ : ∃ W0, W0 = ((w4.alloc (.cells #[.slice q np cap0] 50)).alloc (.cells #[.int .i64 a] 3)).alloc (.cells #[.int .i64 (m : Int)] 3) := ⟨_, rfl⟩
    rw [← hg0, ← hw4, ← hW0, ← hS3e, ← hs]
    have hs4 : w4.heap.size = S3 + 1 := by rw [hw4, hS3e]; simp
    have h3 := three_new w4 (.slice q np cap0) a m
    rw [← hW0, hs4] at h3
    have hsz : W0.heap.size = S3 + 4 := by rw [hW0]; simp [hs4]
    have hb4 : Below s w W0 := by
      rw [hW0, hw4, hs]
      refine (((hb3.alloc hb3.size _).alloc ?_ _).alloc ?_ _).alloc ?_ _ <;> (simp; have := hb3.size; omega)
    have bM0 : Boxed W0 s 63 (.pointer (some ⟨p, 0, none⟩)) := by rw [hW0, hw4, hs]; exact (((bM3.alloc _).alloc _).alloc _).alloc _
    have bB0 : Boxed W0 S3 97 (.slice (some ⟨g0, 0, none⟩) 0 m) := by rw [hW0, hw4, hS3e]; exact (((Boxed.new w3 97 _).alloc _).alloc _).alloc _
    have own0 : W0.ownsRow s 5 1 (.slice (some ⟨g0, 0, none⟩) 0 m) 0 [] := by
      have := HO.out.1
      rw [← hg0, ← hs] at this
      rw [hW0, hw4]
      exact (((this.alloc _).alloc _).alloc _).alloc _
    have hT0 : TabV (fun k => G k ∧ k < s) W0 (.slice q np cap0) ps := by
      rw [hs]
      exact (ht.lt (Nat.le_refl _)).below (by rw [← hs]; exact hb4)
    have hiM : IsM w p g cap F B := h
    have hlt := hiM.lt
    have HF := Lib.hid (And.intro hs (And.intro hS3e (And.intro hg0 (And.intro hiM (And.intro c0 h0)))))
    have hgS : g0 < S3 ∧ s < g0 := by omega
    refine range_boxed (bs := 15) (n1 := S3 + 4) (b := S3 + 1) (s := s) G a m ha (by omega) (.slice q np cap0) ps hps (okPc F) (cur_ok c0 h0) rfl h3 hT0 (by omega) (by omega) hsz
      (RI w B F p s S3 (S3 + 4)) (fun _ _ _ => False) (RI.own (by omega) (by omega) (by omega)) (fun c _ _ _ _ h _ _ => h)
      ⟨⟨bM0, g0, m, bB0, own0, .inl hgS.1, by omega⟩, by omega, hb4⟩ (fun pre W h => h.2.1) ?assign ?alloc ?body ?done (fun _ _ _ _ _ _ h _ => h.elim)
    case assign =>
      intro l pre x W K hi hK
      have HI := Lib.hid hi
      have HK := Lib.hid hK
      clear hi hK hs hS3e hg0 hw4 hW0 hs4 hsz hrun cM hS3 hsw
      dsimp only [encP]
      gi_wp2
      have hk := HK.out
      simp only [rtmps, pcells, List.setIfInBounds_toArray, List.set_cons_succ, List.set_cons_zero] at hk
      exact hk
    case alloc =>
      rintro pre W o ⟨⟨h1, gb, cp, h2, h3, h4, h5⟩, h6, h7⟩
      exact ⟨⟨h1.alloc _, gb, cp, h2.alloc _, h3.alloc _, h4, h5⟩, by simp; omega, h7.alloc (by omega) _⟩
    case body =>
      rintro l pre x Bx W hl ⟨r, hr⟩ ⟨⟨h1, gb, cp, h2, h3, h4, h5⟩, h6, h7⟩ hBx bX hlt
      have hmW := h.below (by rw [hs] at h7; exact h7)
      obtain ⟨x1, x2, x3, x4⟩ := x.2
      obtain ⟨i, hi⟩ : ∃ i : Nat, x.1.f = (i : Int) := ⟨x.1.f.toNat, by omega⟩
      have cB : W.drew.cell? ⟨S3, 0, none⟩ = some (.slice (some ⟨gb, 0, none⟩) (got B pre).length cp) := h2.cell
      clear cM
      have cM : W.drew.cell? ⟨s, 0, none⟩ = some (.pointer (some ⟨p, 0, none⟩)) := h1.cell
      have cF : W.drew.cell? ⟨p, 0, none⟩ = some (.slice (some ⟨g, 0, none⟩) F cap) := hmW.cell
      have y0 : W.drew.cell? ⟨Bx, 0, none⟩ = some (.int .i64 (i : Int)) := by rw [← hi]; show W.cell? _ = _; rw [cell_of_row _ _ _ _ _ _ bX]; rfl
      have y2 : W.drew.cell? ⟨Bx, 2, none⟩ = some (.int .i64 (x.1.a : Int)) := by show W.cell? _ = _; rw [cell_of_row _ _ _ _ _ _ bX]; rfl
      have y3 : W.drew.cell? ⟨Bx, 3, none⟩ = some (.int .i64 (x.1.b : Int)) := by show W.cell? _ = _; rw [cell_of_row _ _ _ _ _ _ bX]; rfl
      have hsl := slice_arr2 g (i * 256) x.1.a x.1.b x3 x4 W.drew
      have hiF : i < F := by omega
      have hseg := seg_len h.len x.2
      have hgl := got_len h.len pre
      obtain ⟨L, hL⟩ : ∃ L, L = (got B pre).length := ⟨_, rfl⟩
      obtain ⟨A, hA⟩ : ∃ A, A = cutAt (i * 256) x.1.a := ⟨_, rfl⟩
      obtain ⟨E, hE⟩ : ∃ E, E = x.1.b - x.1.a := ⟨_, rfl⟩
      have hnews : ∀ j u, ((seg B x.1).map cellB)[j]? = some u → W.drew.cell? ((⟨g, A, none⟩ : Addr).add j) = some u := by
        intro j u hu
        have hjl : j < (seg B x.1).length := by
          rcases Nat.lt_or_ge j (seg B x.1).length with q | q
          · exact q
          · rw [List.getElem?_eq_none (by simpa using q)] at hu; cases hu
        have ha2 : A = 256 * i + x.1.a := by rw [hA]; unfold cutAt; rw [if_neg (by omega)]; omega
        have hrow : RowB 114 W.drew g (cap * 256) B := hmW.row
        refine take_of_row hrow A j u ?_
        rw [← hu, List.getElem?_map, List.getElem?_map, ha2]
        congr 1
        unfold seg
        rw [List.getElem?_take, if_pos (by rw [← hseg]; exact hjl), hi, Int.toNat_natCast]
      obtain ⟨j1, j2, j3, j4⟩ := HI.out
      obtain ⟨v', W1, hap, hown', hgr', hnil, hloc⟩ := run_append_own_at (P := Try.prog) (w := W.drew) s 97 97 5 i0 (.int .u8 0) 1 1 Try.underlying97 j1 j2 j3 j4 rfl (by omega) _ _ _ (show W.drew.ownsRow s 5 1 _ _ _ from h3) ⟨g, A, none⟩ E (256 - x.1.a) ((seg B x.1).map cellB) (by rw [List.length_map, hseg, hE]; omega)
        hnews (by intro u hu; obtain ⟨b, _, rfl⟩ := List.mem_map.1 hu; rfl) (by unfold maxLen; omega) (by omega) (by have := h7.size; show s ≤ W.heap.size; omega)
      obtain ⟨gb', n', cp', rfl⟩ : ∃ gb' n' cp', v' = .slice (some ⟨gb', 0, none⟩) n' cp' := by
        rcases hown'.2 with ⟨e, _⟩ | ⟨_, _, _, e, _⟩
        · rw [e] at hnil; simp at hnil
        · exact ⟨_, _, _, e⟩
      obtain rfl : n' = L + E := by
        rcases hown'.2 with ⟨e, _⟩ | ⟨_, _, _, e, _⟩
        · cases e
        · injection e with _ e2; omega
      have hne1 : S3 ≠ gb := by omega
      have bB1 : Boxed W1 S3 97 (.slice (some ⟨gb, 0, none⟩) L cp) := by
        rw [hL]
        exact (show Boxed W.drew S3 97 _ from h2).kept hgr' (fun e => hne1 (by simpa [Value.ownBlock] using e))
      have cB1 := bB1.cell
      have fB1 := bB1.frozen
      have hgb : ∃ o : Obj, W.drew.heap[gb]? = some o ∧ o.isCells = true := by
        rcases h3.2 with ⟨e, _⟩ | ⟨g', _, cur, e, _, hg', _⟩
        · cases e
        · injection e with e; injection e with e; injection e with e; subst e; exact ⟨_, hg', rfl⟩
      have HW := Lib.hid (And.intro h1 (And.intro h2 (And.intro h3 (And.intro h4 (And.intro h5 (And.intro h6 (And.intro h7 (And.intro hBx bX))))))))
      have HO2 := Lib.hid (And.intro hown' (And.intro hgr' (And.intro hloc (And.intro hseg (And.intro hE hL)))))
      rw [← hL] at cB hap
      rw [← hA, ← hE] at hsl
      have HG := Lib.hid (And.intro hgb bB1)
      clear hgb bB1
      clear hs hS3e hg0 hw4 hW0 hs4 hsz hrun hS3 hsw hs1
      clear h1 h2 h3 h4 h5 h6 h7 hBx bX hown' hgr' hnil hloc hnews hseg hgl hE hA hL j1 j2 j3 j4 x1 x2
      simp only [rtmps, pcells, List.setIfInBounds_toArray, List.set_cons_succ, List.set_cons_zero]
      gi_wp2
      refine wpIn_round_drew 14 (by kernel_rfl) (by kernel_rfl) (by kernel_rfl) ?_
      simp only [List.take_succ_cons, List.take_zero, List.drop_succ_cons, List.drop_zero]
      repeat still_step
      try refine wpStill_nil ?_
      gi_wp2_with (gi_at_builtin; refine wpListIn_append_run rfl (.tmp 51) (.tmp 64) 97 rfl _ _ _ _ rfl rfl hap ?_)
      obtain ⟨h1, h2, h3, h4, h5, h6, h7, hBx, bX⟩ := HW.out
      obtain ⟨hown', hgr', hloc, hseg, hE, hL⟩ := HO2.out
      obtain ⟨⟨o, ho1, ho2⟩, bB1⟩ := HG.out
      obtain ⟨hs, hS3e, hg0, _, _, _⟩ := HF.out
      have hgk : ∀ k, k < W.heap.size → k ≠ gb → k ≠ S3 → (W1.setCell ⟨S3, 0, none⟩ (.slice (some ⟨gb', 0, none⟩) (L + E) cp')).heap[k]? = W.heap[k]? := by
        intro k hk h1 h2
        rw [block_setCell_other (show k ≠ S3 from h2)]
        exact hgr'.block k hk (fun e => h1 (by simpa [Value.ownBlock] using e))
      have hszW : W.heap.size ≤ W1.heap.size := hgr'.size
      have hlen : L + E = (got B (pre ++ [x])).length := by rw [got_snoc, List.length_append, hseg, hL, hE]
      have hSn : some S3 ≠ some gb' := by
        intro e
        have e := Option.some.inj e
        rcases hloc with q | q
        · have e2 : gb' = gb := by simpa [Value.ownBlock] using q
          omega
        · have e2 : gb' = W.heap.size := by simpa [Value.ownBlock] using q
          have := h2.lt
          omega
      refine ⟨(((KeepsOthers.drew W).trans (KeepsOthers.of_grownBy hgr' (fun j o' ej hj => ?_))).trans (KeepsOthers.setCell _ _ _)).from _, ⟨by rw [setCell_size]; exact hszW, fun k hk hK => ?_⟩, ⟨?_, ?_⟩, ?_, ?_⟩
      · have e2 : j = gb := by have : some gb = some j := ej; exact (Option.some.inj this).symm
        subst e2
        rw [ho1] at hj; cases hj; exact ho2
      · unfold KK at hK
        exact hgk k hk (by omega) (by omega)
      · have e1 := hgk s (by omega) (by omega) (by omega)
        exact e1.trans h1
      · refine ⟨gb', cp', ?_, ?_, ?_, ?_⟩
        · rw [← hlen]; exact bB1.set _
        · rw [← hL] at hown'
          rw [← hlen, got_snoc, List.map_append]
          exact hown'.kept (grownBy_setCell' W1 S3 _) (.inr (fun e => hSn e.symm))
        · rcases hloc with q | q
          · have e2 : gb' = gb := by simpa [Value.ownBlock] using q
            omega
          · have e2 : gb' = W.heap.size := by simpa [Value.ownBlock] using q
            omega
        · rcases hloc with q | q
          · have e2 : gb' = gb := by simpa [Value.ownBlock] using q
            omega
          · have e2 : gb' = W.heap.size := by simpa [Value.ownBlock] using q
            omega
      · rw [setCell_size]; omega
      · have hd : Below s w W.drew := ⟨h7.os, h7.tape, h7.output, h7.size, h7.block⟩
        refine Below.setCell (p := ⟨S3, 0, none⟩) (hd.grown hgr' (by show s ≤ W.heap.size; omega) (fun k e => ?_)) (by show s ≤ S3; omega) _
        have : some gb = some k := e
        have := Option.some.inj this
        omega
    case done =>
      rintro D ys W hD hall ⟨⟨h1, gb, cp, h2, h3, h4, h5⟩, h6, h7⟩ hK
      have hrd : got B ys = rd ps B a m := hall.read h.len c0 h0
      have hc1 := h2.cell
      rcases h3.2 with ⟨e, _⟩ | ⟨g', c', cur, e, hg1, hg2, hg3, hg4, hg5, hg6⟩
      · cases e
      · injection e with e e'' e3
        injection e with e
        injection e with e
        subst e e3
        have hrow : RowB 5 W gb cp (got B ys) := ⟨cur, (0, 0), hg2, .inl rfl, hg3, by omega, by rw [← Nat.mul_one (got B ys).length]; exact hg6⟩
        have hcv := hrow.string (w' := W) 0 (got B ys).length cp (by omega)
        rw [List.drop_zero, List.take_length] at hcv
        have HD := Lib.hid (And.intro h7 (And.intro hD (And.intro hrd hsz)))
        clear h1 h2 h3 h4 h5 h6 h7 hD hrow hg2 hg6 hall hrd
        clear hs hS3e hg0 hw4 hW0 hs4 hsz hrun hS3 hsw hs1
        gi_wp2
        refine ⟨by simp, .inl ⟨_, _, rfl, run_takeDeferred hK, ?_⟩⟩
        refine ⟨_, results_tmp2 rfl _ _ _, by rw [← HD.out.2.2.1]; rfl, ?_⟩
        rw [← HF.out.1]
        exact HD.out.1.trans (belowK_b (w := W0) (by rw [HD.out.2.2.2]; have := hgS; omega) _ D _ _ (by rw [HD.out.2.2.2]; exact HD.out.2.1) hK rfl rfl)
end Go.Proofs.Ytedhefidfepclaa
