/- What the law tries of any journal's reads is so. Conditions: ints are within 64 bits; lists are no longer than a machine holds. -/
import Derived.Test.YtjippoejaieneaaGreatJfx
namespace Go.Proofs.YtjippoejaieneaaGreat
open Go.RowKit Go.Maps
set_option maxRecDepth 20000
set_option linter.unusedVariables false

/-- a journal and the row of what its cells have -/
def RI (n B j x p b A m : Nat) (W : World) (v : Value) : Prop := ∃ S V J, RJ W B j x p S V J v (celsL S V J) ∧ Calm n S ∧ CelOk S V J ∧ V.cnt = b ∧ J.area = A ∧ V.mis ≤ m
theorem celsL_len (S : St) (V : Dv) (J : Jn) : (celsL S V J).length = V.cnt - J.area := by unfold celsL; simp
theorem celsL_same {S : St} {V V' : Dv} {J : Jn} (h1 : V'.first = V.first) (h2 : V'.cnt = V.cnt) : celsL S V' J = celsL S V J := by
  unfold celsL
  rw [h2]
  exact List.map_congr_left fun c _ => cel_same h1 h2 c
theorem RI.below {n B j x p b A m : Nat} {W W' : World} {v : Value} (h : RI n B j x p b A m W v) (hb : Below W.heap.size W W') : RI n B j x p b A m W' v := by
  obtain ⟨S, V, J, h1, h2⟩ := h
  exact ⟨S, V, J, h1.below hb, h2⟩
theorem RI.form {n B j x p b A m : Nat} {W : World} {v : Value} (h : RI n B j x p b A m W v) : (∃ q cap, v = .slice q (b - A) cap) ∧ B ≤ W.heap.size := by
  obtain ⟨S, V, J, h1, h2, h3, h4, h5, h6⟩ := h
  obtain ⟨q, cap, e, _⟩ := h1.row (by rw [celsL_len]; have := h1.jx.2; omega)
  rw [celsL_len, h4, h5] at e
  exact ⟨⟨q, cap, e⟩, h1.base⟩
/-- all cells are read again -/
theorem ri_again {n : Nat} (B j x p b A m : Nat) (S : St) (V : Dv) (J : Jn) (v : Value) (w : World) (h : RJ w B j x p S V J v (celsL S V J)) (hc : Calm n S) (hco : CelOk S V J) (h4 : V.cnt = b) (h5 : J.area = A) (h6 : V.mis ≤ m) (hm : m < 4611686018427370000) :
    Calls Tryz.prog 22 #[.pointer (some ⟨j, 0, none⟩)] w fun e w' => ∃ v2 l, e = .returned (.tuple #[v2, .bool true]) ∧ TR w' v2 l ∧ TR w' v l ∧ RI n B j x p b A (m + 4096) w' v ∧ Below B w w' := by
  refine (rj_readL B j x p S V J v _ w h hc hco (by omega)).mono fun e w' ⟨v2, V', q1, q2, q3, q4, q5, q6, q7⟩ => ?_
  have hl : (celsL S V J).length ≤ 8192 := by rw [celsL_len]; have := h.jx.2; omega
  exact ⟨v2, celsL S V J, q1, q6.row hl, q5.row hl, ⟨S, V', J, by rw [celsL_same q2 q3]; exact q5, hc, hco.same q2 q3, q3.trans h4, h5, by omega⟩, q7⟩
theorem rows_same (v1 v2 : Value) (l : List Bts) (w : World) (h1 : TR w v1 l) (h2 : TR w v2 l) : Calls Tryz.prog 28 #[v1, v2] w fun e w' => e = .returned (.bool true) ∧ Below w.heap.size w w' := by
  have := rows_any v1 v2 l l w h1 h2
  rw [decide_eq_true rfl] at this
  exact this
theorem rj_first {n : Nat} (B j x p b A : Nat) (S : St) (V : Dv) (J : Jn) (w : World) (h : JAt w B j x p S V J) (hc : Calm n S) (hco : CelOk S V J) (h4 : V.cnt = b) (h5 : J.area = A) (h6 : V.mis = 0) :
    Calls Tryz.prog 22 #[.pointer (some ⟨j, 0, none⟩)] w fun e w' => ∃ q cap, e = .returned (.tuple #[.slice q (b - A) cap, .bool true]) ∧ RI n B j x p b A 4096 w' (.slice q (b - A) cap) ∧ Below B w w' := by
  obtain ⟨hB, F, mb, i, g⟩ := h
  refine (readL_any F j x p mb S V J w i hc.dead hco (by omega)).mono fun e w' ⟨v2, F', mb', V', q1, q2, q3, q4, i', gr, ch, r'⟩ => ?_
  have g' : ∀ k, JF F' j mb' k → B ≤ k := fun k hk => by
    rcases gr k hk with z | z
    · exact g k z
    · exact Nat.le_trans hB z.1
  have hri : RI n B j x p b A 4096 w' v2 := ⟨S, V', J, by rw [celsL_same q2 q3]; exact ⟨Nat.le_trans hB ch.size, F', mb', i', g', ⟨own_low r'.own hB, r'.nb⟩⟩, hc, hco.same q2 q3, q3.trans h4, h5, by omega⟩
  obtain ⟨⟨q, cap, e2⟩, _⟩ := hri.form
  rw [e2] at q1 hri
  exact ⟨q, cap, q1, hri, ch.below hB g⟩
/-- a transaction and its row, when it is taken -/
theorem ri_take {n : Nat} (B j x p b A m : Nat) (S : St) (V : Dv) (J : Jn) (v vt : Value) (tx : List Wt) (w : World) (h : RJ w B j x p S V J v (celsL S V J)) (hc : Calm n S) (hco : CelOk S V J) (h4 : V.cnt = b) (h5 : J.area = A) (h6 : V.mis ≤ m)
    (ht : WV w (fun k => k < B) vt tx) (hl : tx.length ≤ 17592186044416) (hE : cmE J V tx = 0) :
    Calls Tryz.prog 24 #[.pointer (some ⟨j, 0, none⟩), vt] w fun e w' => e = .returned (.int .i64 0) ∧ Below B w w' ∧ ∃ S' V', Calm n S' ∧ CelOk S' V' (cmJ J V tx) ∧ V'.cnt = b ∧ (cmJ J V tx).area = A ∧ V'.mis ≤ m ∧
      Calls Tryz.prog 25 #[v, vt] w' fun e w' => ∃ v', e = .returned v' ∧ RJ w' B j x p S' V' (cmJ J V tx) v' (celsL S' V' (cmJ J V tx)) ∧ Below B w w' := by
  refine (rj_commit B j x p S V J v vt _ tx w h hc hco ht hl).mono fun e w' ⟨q1, S', V', c1, c2, c3, c4, c5, c6, c7, c8⟩ => ?_
  rw [hE] at q1
  rw [if_pos hE] at c6
  have hN := h.jx
  have hA1 := hN.1.a1
  have ha : (cmJ J V tx).area = J.area := by
    rcases cmE_cases (J := J) (V := V) (l := tx) with ⟨_, z | z⟩ | ⟨z, _⟩
    · rw [z, cmJ_nil]
    · exact (cmJ_more z).2
    · exact absurd hE z
  refine ⟨q1, c8, S', V', c1, c2, c3.trans h4, ha.trans h5, by omega, ?_⟩
  have hm : tx.length ≤ 4096 ∧ ∀ y ∈ tx, 0 ≤ y.c ∧ y.c < ((celsL S V J).length : Int) ∧ y.d.size ≤ 116 := by
    rcases cmE_cases (J := J) (V := V) (l := tx) with ⟨_, z | z⟩ | ⟨z, _⟩
    · rw [z]; exact ⟨by simp, fun y hy => nomatch hy⟩
    · obtain ⟨f1, f2, f3⟩ := len_fits hN.1 z
      obtain ⟨r1, r2, r3, r4⟩ := refJ_zero z.2.1
      exact ⟨by omega, fun y hy => by rw [celsL_len]; exact mem_ok r2 r3 y hy⟩
    · exact absurd hE z
  have hB := h.base
  have htw : WV w' (fun k => k < B) vt tx := by
    obtain ⟨q, cap, e1, e2, e3⟩ := ht
    refine ⟨q, cap, e1, e2, fun i hi => ?_⟩
    obtain ⟨b, o, a1, a2, a3, a4, a5⟩ := e3 i hi
    have hk := c8.block b a2
    exact ⟨b, o, a1, a2, Nat.lt_of_lt_of_le a3 c8.size, by rw [← a4]; unfold World.cell?; simp only [hk], by rw [← a5]; unfold World.cell?; simp only [hk]⟩
  refine (rj_behind B j x p S' V' _ v vt _ tx w' c7 (by rw [celsL_len]; omega) (by rw [celsL_len]; omega) htw hm.1 hm.2).mono fun e w2 ⟨v', z1, z2, z3⟩ => ⟨v', z1, by rw [c6]; exact z2, c8.trans (z3.mono c7.base)⟩
/-- a transaction that is refused -/
theorem ri_no {n : Nat} (B j x p b A m : Nat) (S : St) (V : Dv) (J : Jn) (v vt : Value) (tx : List Wt) (w : World) (h : RJ w B j x p S V J v (celsL S V J)) (hc : Calm n S) (hco : CelOk S V J) (h4 : V.cnt = b) (h5 : J.area = A) (h6 : V.mis ≤ m)
    (ht : WV w (fun k => k < B) vt tx) (hl : tx.length ≤ 17592186044416) (hE : cmE J V tx ≠ 0) :
    Calls Tryz.prog 24 #[.pointer (some ⟨j, 0, none⟩), vt] w fun e w' => e = .returned (.int .i64 (cmE J V tx)) ∧ Below B w w' ∧ ∃ S' V', Calm n S' ∧ CelOk S' V' J ∧ V'.cnt = b ∧ V'.mis ≤ m ∧ RJ w' B j x p S' V' J v (celsL S' V' J) := by
  refine (rj_commit B j x p S V J v vt _ tx w h hc hco ht hl).mono fun e w' ⟨q1, S', V', c1, c2, c3, c4, c5, c6, c7, c8⟩ => ?_
  have hJ : cmJ J V tx = J := by
    rcases cmE_cases (J := J) (V := V) (l := tx) with ⟨z, _⟩ | ⟨_, z⟩
    · exact absurd z hE
    · exact z
  rw [if_neg hE] at c6
  rw [hJ] at c2 c6 c7
  exact ⟨q1, c8, S', V', c1, c2, c3.trans h4, by omega, by rw [c6]; exact c7⟩
end Go.Proofs.YtjippoejaieneaaGreat
