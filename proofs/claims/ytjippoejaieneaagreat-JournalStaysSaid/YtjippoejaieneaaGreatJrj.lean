/- A journal with a row of texts beside it. Conditions: ints are within 64 bits. -/
import Derived.Test.YtjippoejaieneaaGreatJag
import Derived.Test.YtjippoejaieneaaGreatJcw
namespace Go.Proofs.YtjippoejaieneaaGreat
open Go.RowKit Go.Maps
set_option maxRecDepth 20000
set_option linter.unusedVariables false

structure RJ (W : World) (B j x p : Nat) (S : St) (V : Dv) (J : Jn) (v : Value) (l : List Bts) : Prop where
  base : B ≤ W.heap.size
  at' : ∃ F mb, IsJ W F j x p mb S V J ∧ (∀ k, JF F j mb k → B ≤ k) ∧ Rw W B (JF F j mb) v l
theorem RJ.below {W W' : World} {B j x p : Nat} {S : St} {V : Dv} {J : Jn} {v : Value} {l : List Bts} (h : RJ W B j x p S V J v l) (hb : Below W.heap.size W W') : RJ W' B j x p S V J v l := by
  obtain ⟨h0, F, mb, i, g, r⟩ := h
  exact ⟨Nat.le_trans h0 hb.size, F, mb, i.below hb, g, r.below hb⟩
theorem RJ.row {W : World} {B j x p : Nat} {S : St} {V : Dv} {J : Jn} {v : Value} {l : List Bts} (h : RJ W B j x p S V J v l) (hl : l.length ≤ 8192) : TR W v l := by
  obtain ⟨h0, F, mb, i, g, r⟩ := h
  exact tr_own r.own hl
theorem own_low {w : World} {base base' : Nat} {e : TypeId} {size : Nat} {v : Value} {n : Nat} {xs : List Value} (h : w.ownsRow base e size v n xs) (hb : base' ≤ base) : w.ownsRow base' e size v n xs := by
  obtain ⟨h1, h2 | ⟨g, cap, cur, a1, a2, a3⟩⟩ := h
  · exact ⟨h1, .inl h2⟩
  · exact ⟨h1, .inr ⟨g, cap, cur, a1, Nat.le_trans hb a2, a3⟩⟩
theorem Rw.keep {W W' : World} {B : Nat} {N N' : Nat → Prop} {v : Value} {l : List Bts} (h : Rw W B N v l) (g : Gr N N' W W') (c : Ch N W W') : Rw W' B N' v l := by
  refine ⟨own_keep h.own (fun b hb => c.block b (own_lt h.own hb) (h.nb b hb)), fun b hb z => ?_⟩
  rcases g b z with y | y
  · exact h.nb b hb y
  · have := own_lt h.own hb; omega
theorem RJ.to {W W' : World} {B j x p : Nat} {S' : St} {V' : Dv} {J' : Jn} {v : Value} {l : List Bts} {F F' : Nat → Prop} {mb mb' : Nat} (h0 : B ≤ W.heap.size) (hF : ∀ k, JF F j mb k → B ≤ k) (r : Rw W B (JF F j mb) v l)
    (i : IsJ W' F' j x p mb' S' V' J') (g : Gr (JF F j mb) (JF F' j mb') W W') (c : Ch (JF F j mb) W W') : RJ W' B j x p S' V' J' v l ∧ Below B W W' := by
  refine ⟨⟨Nat.le_trans h0 c.size, F', mb', i, fun k hk => ?_, r.keep g c⟩, c.below h0 hF⟩
  rcases g k hk with z | z
  · exact hF k z
  · exact Nat.le_trans h0 z.1
/-- what a transaction does beside a row -/
theorem rj_commit {n : Nat} (B j x p : Nat) (S : St) (V : Dv) (J : Jn) (v vt : Value) (l : List Bts) (tx : List Wt) (w : World) (h : RJ w B j x p S V J v l) (hc : Calm n S) (hco : CelOk S V J) (ht : WV w (fun k => k < B) vt tx) (hl : tx.length ≤ 17592186044416) :
    Calls Tryz.prog 24 #[.pointer (some ⟨j, 0, none⟩), vt] w fun e w' => e = .returned (.int .i64 (cmE J V tx)) ∧ ∃ S' V', Calm n S' ∧ CelOk S' V' (cmJ J V tx) ∧ V'.cnt = V.cnt ∧ V'.first = V.first ∧ V'.mis = V.mis ∧
      celsL S' V' (cmJ J V tx) = (if cmE J V tx = 0 then bhL (celsL S V J) tx else celsL S V J) ∧ RJ w' B j x p S' V' (cmJ J V tx) v l ∧ Below B w w' := by
  obtain ⟨h0, F, mb, i, g, r⟩ := h
  refine (commit_any F (fun k => k < B) j x p mb S V J vt tx w i ht (fun k hk z => by have := g k z; omega) (fun k hk => Nat.lt_of_lt_of_le hk h0) hl).mono fun e w' q => ?_
  obtain ⟨g1, c1⟩ := calm_run (cmS J V tx) hc i.jx.good
  rcases q with ⟨q1, _⟩ | ⟨_, q2, F', mb', i', gr, ch⟩
  · rw [g1] at q1; cases q1
  have hr := RJ.to h0 g r i' gr ch
  obtain ⟨_, _, _, f1, f2, _, f4⟩ := run_good (cmS J V tx) hc.ok i.jx.good
  have key : CelOk (runS (cmS J V tx) S V).1 (runS (cmS J V tx) S V).2 (cmJ J V tx) ∧ celsL (runS (cmS J V tx) S V).1 (runS (cmS J V tx) S V).2 (cmJ J V tx) = (if cmE J V tx = 0 then bhL (celsL S V J) tx else celsL S V J) := by
    by_cases go : cmGo J V tx
    · obtain ⟨k1, k2⟩ := cm_cel hc i.jx.good i.ok hco go
      refine ⟨k1, ?_⟩
      rw [if_pos (cmE_go go)]
      have ha : (cmJ J V tx).area = J.area := by rw [(cm_yes go).2, takeJ_area, cmK_area]
      unfold celsL
      rw [f2, ha, bhL_bhF]
      exact List.map_congr_left fun c hcm => k2 c (List.mem_range.1 hcm)
    · obtain ⟨e1, e2⟩ := cm_no go
      rw [e1, e2]
      refine ⟨hco, ?_⟩
      show celsL S V J = _
      split
      · rename_i z
        have : tx = [] := by
          by_cases q : tx = []
          · exact q
          · exfalso
            apply go
            unfold cmE at z
            have hl0 : ¬ tx.length = 0 := fun y => q (List.length_eq_zero_iff.1 y)
            rw [if_neg hl0] at z
            split at z
            · contradiction
            · rename_i q1
              split at z
              · cases z
              · rename_i q2
                exact ⟨q, Decidable.not_not.1 q1, q2⟩
        rw [this]; rfl
      · rfl
  exact ⟨q2, _, _, c1, key.1, f2, f1, f4, key.2, hr.1, hr.2⟩
theorem cmE_cases {J : Jn} {V : Dv} {l : List Wt} : (cmE J V l = 0 ∧ (l = [] ∨ cmGo J V l)) ∨ (cmE J V l ≠ 0 ∧ cmJ J V l = J) := by
  by_cases go : cmGo J V l
  · exact .inl ⟨cmE_go go, .inr go⟩
  · by_cases z : cmE J V l = 0
    · left
      refine ⟨z, .inl ?_⟩
      by_cases q : l = []
      · exact q
      · exfalso
        apply go
        unfold cmE at z
        have hl0 : ¬ l.length = 0 := fun y => q (List.length_eq_zero_iff.1 y)
        rw [if_neg hl0] at z
        split at z
        · contradiction
        · rename_i q1
          split at z
          · cases z
          · rename_i q2
            exact ⟨q, Decidable.not_not.1 q1, q2⟩
    · exact .inr ⟨z, (cm_no go).2⟩
theorem cmJ_more {J : Jn} {V : Dv} {l : List Wt} (go : cmGo J V l) : (cmJ J V l).next = J.next + 1 ∧ (cmJ J V l).area = J.area := by
  rw [(cm_yes go).2]
  exact ⟨by show (cmK J l).next + 1 = _; rw [cmK_next], by rw [takeJ_area, cmK_area]⟩
theorem cmJ_nil {J : Jn} {V : Dv} : cmJ J V [] = J := (cm_no (fun z => z.1 rfl)).2
theorem rj_behind (B j x p : Nat) (S : St) (V : Dv) (J : Jn) (v vt : Value) (l : List Bts) (tx : List Wt) (w : World) (h : RJ w B j x p S V J v l) (hl : l.length ≤ 8192) (h0 : 0 < l.length) (ht : WV w (fun k => k < B) vt tx) (htl : tx.length ≤ 4096)
    (hm : ∀ y ∈ tx, 0 ≤ y.c ∧ y.c < (l.length : Int) ∧ y.d.size ≤ 116) :
    Calls Tryz.prog 25 #[v, vt] w fun e w' => ∃ v', e = .returned v' ∧ RJ w' B j x p S V J v' (bhL l tx) ∧ Below w.heap.size w w' := by
  obtain ⟨hB, F, mb, i, g, r⟩ := h
  refine (behind_any _ B v vt l tx w r.own hl h0 ht htl hm).mono fun e w' ⟨v', q1, q2, q3⟩ => ⟨v', q1, ⟨Nat.le_trans hB q3.size, F, mb, i.below q3, g, ?_, fun b hb z => ?_⟩, q3⟩
  · rw [bhL_len]; exact own_low q2 hB
  · have := (q2.lt b hb).1
    have := i.lt b z
    omega
theorem rj_readL {n : Nat} (B j x p : Nat) (S : St) (V : Dv) (J : Jn) (v : Value) (l : List Bts) (w : World) (h : RJ w B j x p S V J v l) (hc : Calm n S) (hco : CelOk S V J) (hm : V.mis < 4611686018427370000) :
    Calls Tryz.prog 22 #[.pointer (some ⟨j, 0, none⟩)] w fun e w' => ∃ v2 V', e = .returned (.tuple #[v2, .bool true]) ∧ V'.first = V.first ∧ V'.cnt = V.cnt ∧ V'.mis ≤ V.mis + 4096 ∧ RJ w' B j x p S V' J v l ∧ RJ w' B j x p S V' J v2 (celsL S V J) ∧ Below B w w' := by
  obtain ⟨hB, F, mb, i, g, r⟩ := h
  refine (readL_any F j x p mb S V J w i hc.dead hco hm).mono fun e w' ⟨v2, F', mb', V', q1, q2, q3, q4, i', gr, ch, r'⟩ => ?_
  obtain ⟨k1, k2⟩ := RJ.to hB g r i' gr ch
  have g' : ∀ k, JF F' j mb' k → B ≤ k := fun k hk => by
    rcases gr k hk with z | z
    · exact g k z
    · exact Nat.le_trans hB z.1
  exact ⟨v2, V', q1, q2, q3, q4, k1, ⟨Nat.le_trans hB ch.size, F', mb', i', g', ⟨own_low r'.own hB, r'.nb⟩⟩, k2⟩
theorem rj_read {n : Nat} (B j x p : Nat) (S : St) (V : Dv) (J : Jn) (v : Value) (l : List Bts) (c : Int) (w : World) (h : RJ w B j x p S V J v l) (hc : Calm n S) (hm : V.mis < 4611686018427387904) (hz : isC J V c = false) :
    Calls Tryz.prog 17 #[.pointer (some ⟨j, 0, none⟩), .int .i64 c] w fun e w' => e = .returned (.tuple #[.string (ofL []), .int .i64 161]) ∧ RJ w' B j x p S V J v l ∧ Below B w w' := by
  obtain ⟨hB, F, mb, i, g, r⟩ := h
  refine (jread_any F j x p mb S V J c w i hc.dead hm).mono fun e w' ⟨q1, F', mb', i', gr, ch⟩ => ?_
  have e1 : celE S V J c = 161 := if_pos hz
  have e2 : celD S V J c = [] := if_pos hz
  have e3 : celV S V J c = V := if_pos hz
  rw [e1, e2] at q1
  rw [e3] at i'
  exact ⟨q1, RJ.to hB g r i' gr ch⟩
theorem RJ.jx {W : World} {B j x p : Nat} {S : St} {V : Dv} {J : Jn} {v : Value} {l : List Bts} (h : RJ W B j x p S V J v l) : J.ok V ∧ V.cnt ≤ 4096 := by
  obtain ⟨h0, F, mb, i, g, r⟩ := h
  exact ⟨i.ok, i.c4⟩
theorem rj_next (B j x p : Nat) (S : St) (V : Dv) (J : Jn) (v : Value) (l : List Bts) (w : World) (h : RJ w B j x p S V J v l) :
    Calls Tryz.prog 23 #[.pointer (some ⟨j, 0, none⟩)] w fun e w' => e = .returned (.int .i64 J.next) ∧ w = w' := by
  obtain ⟨h0, F, mb, i, g, r⟩ := h
  exact next_any F j x p _ S V J w i.jx
theorem rj_room (B j x p : Nat) (S : St) (V : Dv) (J : Jn) (v : Value) (l : List Bts) (w : World) (h : RJ w B j x p S V J v l) :
    Calls Tryz.prog 26 #[.pointer (some ⟨j, 0, none⟩)] w fun e w' => e = .returned (.int .i64 (mostN J.area J.en)) ∧ w = w' := by
  obtain ⟨h0, F, mb, i, g, r⟩ := h
  have := i.ok.a1; have := i.ok.e0; have := i.ok.e1; have := i.c4
  exact room_any F j x p _ S V J w i.jx (by omega) (by omega) (by omega)
theorem rj_most (B j x p : Nat) (S : St) (V : Dv) (J : Jn) (v : Value) (l : List Bts) (w : World) (h : RJ w B j x p S V J v l) :
    Calls Tryz.prog 27 #[.pointer (some ⟨j, 0, none⟩)] w fun e w' => e = .returned (.int .i64 (mostN J.area 2)) ∧ w = w' := by
  obtain ⟨h0, F, mb, i, g, r⟩ := h
  have := i.ok.a1; have := i.c4
  exact most_any F j x p _ S V J w i.jx (by omega)
theorem rj_cells (B j x p : Nat) (S : St) (V : Dv) (J : Jn) (v : Value) (l : List Bts) (w : World) (h : RJ w B j x p S V J v l) :
    Calls Tryz.prog 29 #[.pointer (some ⟨j, 0, none⟩)] w fun e w' => e = .returned (.int .i64 ((V.cnt - J.area : Nat) : Int)) ∧ Below w.heap.size w w' := by
  obtain ⟨h0, F, mb, i, g, r⟩ := h
  exact cells_any F j x p _ S V J w i.jx i.ok.a1
end Go.Proofs.YtjippoejaieneaaGreat
