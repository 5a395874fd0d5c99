/- A head is read. Conditions: ints are within 64 bits. -/
import Derived.Test.YtjippoejaieneaaGreatJeq
import Derived.Test.YtjippoejaieneaaGreatJfm
namespace Go.Proofs.YtjippoejaieneaaGreat
open Go.RowKit Go.Maps
set_option maxRecDepth 20000
set_option linter.unusedVariables false

def hfO (s : Bts) : Int := Cd.numS (s.take 8)
/-- is it a head's data? -/
def hdB (s : Bts) : Bool := !decide (hfO s < 1) && !decide (4611686018427387904 < hfO s) && decide (padB s = padB (Cd.putS (hfO s) 8))
def rhOk (S : St) (V : Dv) (i : Nat) : Bool := decide (rdE S V (i : Int) = 0) && !decide (rdN S V (i : Int) < 2) && decide (rdN S V (i : Int) % 2 = (i : Int)) && hdB (rdD S V (i : Int))
/-- the number and the first of the head in a block -/
def rhN (S : St) (V : Dv) (i : Nat) : Int := if rhOk S V i then rdN S V (i : Int) else 0
def rhF (S : St) (V : Dv) (i : Nat) : Int := if rhOk S V i then hfO (rdD S V (i : Int)) else 0
theorem rd_len {S : St} {V : Dv} {i : Int} (h : rdE S V i = 0) : (rdD S V i).length = 116 := by
  unfold rdE at h
  split at h
  · rename_i q; exact absurd h q
  · rename_i q
    unfold rdD
    rw [if_neg q]
    have := (parE_ok h).1
    unfold parD
    rw [if_pos h, List.length_take]
    omega
theorem TX.then_below {F : Nat → Prop} {w w1 w2 : World} {j x p : Nat} {mv : Value} {S : St} {V : Dv} {J : Jn} (h : TX F w w1 j x p mv S V J) (hb : Below w1.heap.size w1 w2) : TX F w w2 j x p mv S V J := by
  obtain ⟨F1, hx, g, c⟩ := h
  exact ⟨F1, hx.below hb, fun k hk => (g k hk).imp id (fun z => ⟨z.1, Nat.lt_of_lt_of_le z.2 hb.size⟩), c.then_below hb⟩
set_option maxHeartbeats 8000000 in
theorem readHead_any (F : Nat → Prop) (j x p : Nat) (mv : Value) (S : St) (V : Dv) (J : Jn) (i : Nat) (w : World) (h : JX w F j x p mv S V J) (hd : S.dead = false) (hi : i < 2) (hm : V.mis < 4611686018427387904) :
    Calls Tryz.prog 129 #[.pointer (some ⟨j, 0, none⟩), .int .i64 (i : Int)] w fun e w' => e = .returned (.tuple #[.int .i64 (rhN S V i), .int .i64 (rhF S V i)]) ∧ TX F w w' j x p mv S (rdV S V (i : Int)) J := by
  obtain ⟨c0, _⟩ := h.cells
  have hg := h.good.read (i : Int)
  have KD : Hid (Calls Tryz.prog 80 #[.pointer (some ⟨x, 0, none⟩), .int .i64 (i : Int)] w fun e w' => e = .returned (.tuple #[.string (ofL (rdD S V (i : Int))), .int .i64 (rdN S V (i : Int)), .int .i64 (rdE S V (i : Int))]) ∧ TX F w w' j x p mv S (rdV S V (i : Int)) J) :=
    (dread_any F x p S V (i : Int) w h.ext h.good.ok h.good.fit h.good.coh hm).mono fun e w' q => ⟨q.1, h.to q.2 h.sok hg⟩
  have hlen := rd_len (S := S) (V := V) (i := (i : Int))
  have hN : Hid (rhN S V i = if decide (rdE S V (i : Int) = 0) && !decide (rdN S V (i : Int) < 2) && decide (rdN S V (i : Int) % 2 = (i : Int)) && hdB (rdD S V (i : Int)) then rdN S V (i : Int) else 0) := rfl
  have hF : Hid (rhF S V i = if decide (rdE S V (i : Int) = 0) && !decide (rdN S V (i : Int) < 2) && decide (rdN S V (i : Int) % 2 = (i : Int)) && hdB (rdD S V (i : Int)) then hfO (rdD S V (i : Int)) else 0) := rfl
  generalize rdD S V (i : Int) = D at *
  generalize rdN S V (i : Int) = N at *
  generalize rdE S V (i : Int) = E at *
  generalize rdV S V (i : Int) = V' at *
  clear h hg hd hm
  by_cases a : E = 0
  · have hl := hlen a
    subst a
    by_cases b : N < 2
    · have HR : Hid (rhN S V i = 0 ∧ rhF S V i = 0) := by
        unfold Hid
        rw [hN.out, hF.out]; simp [b]
      clear hN hF
      go_enter Tryz.func129, Tryz.ntmps129
      go_wp2_with (first
        | (go_at_call 80; (with_reducible refine KD.out.mono ?_); rintro e w1 ⟨rfl, ht⟩; have HT := Lib.hid ht; clear ht))
      go_ret2
      rw [HR.out.1, HR.out.2]
      exact ⟨rfl, HT.out⟩
    · have hrem : N.tmod 2 = N % 2 := Int.tmod_eq_emod_of_nonneg (by omega)
      by_cases c : N % 2 = (i : Int)
      · have cb : (N % 2 != (i : Int)) = false := by simp [c]
        have hsz : (ofL D).size = 116 := by rw [ofL_size, hl]
        have KN : Hid (∀ W, Below W.heap.size W W → Calls Tryz.prog 102 #[.pointer (some ⟨W.heap.size, 0, none⟩), .int .i64 8] (W.alloc (.cells #[.string (ofL D), .int .i64 0, .int .i64 0] 167)) fun e w' => e = .returned (.int .i64 (hfO D)) ∧ Below W.heap.size W w') := fun W _ => by
          have hr : Cd.Rdr (W.alloc (.cells #[.string (ofL D), .int .i64 0, .int .i64 0] 167)) W.heap.size (ofL D) 0 0 := block_new W _
          refine (Cd.num_any _ W.heap.size (ofL D) 0 0 8 hr (Nat.zero_le _) (by rw [hsz]; omega)).mono fun e w' q => ?_
          obtain ⟨q1, _, q2⟩ := q
          have e1 : (Cd.numR (ofL D) 0 0 8).1 = hfO D := by
            unfold Cd.numR hfO
            rw [if_neg (by omega), if_neg (by omega), if_neg (by rw [hsz]; omega), ofL_list]; rfl
          rw [e1] at q1
          refine ⟨q1, ⟨q2.os, q2.tape, q2.output, Nat.le_trans (by simp) q2.size, fun k hk => ?_⟩⟩
          exact (q2.block k (by simp; omega) (fun e => by have := Option.some.inj e; omega)).trans (Below.heap_alloc _ _ _ hk)
        have KM : Hid (∀ W, Calls Tryz.prog 101 #[.string (ofL D)] W fun e w' => e = .returned (.pointer (some ⟨W.heap.size, 0, none⟩)) ∧ w' = W.alloc (.cells #[.string (ofL D), .int .i64 0, .int .i64 0] 167)) := fun W => Cd.new_any (ofL D) W
        have hpl : (padB D).length = 116 := padB_len (by omega)
        have hql : (padB (Cd.putS (hfO D) 8)).length = 116 := padB_len (by rw [Cd.putS_length]; omega)
        have KA : Hid (∀ W, Calls Tryz.prog 96 #[.string (ofL D)] W fun e w' => e = .returned (.agg ((padB D).map cellB).toArray) ∧ Below W.heap.size W w') := fun W => by
          have := dataOf_any (ofL D) W (by rw [hsz]; omega)
          rwa [ofL_list] at this
        have KB : Hid (∀ W, Calls Tryz.prog 96 #[.string (ofL (Cd.putS (hfO D) 8))] W fun e w' => e = .returned (.agg ((padB (Cd.putS (hfO D) 8)).map cellB).toArray) ∧ Below W.heap.size W w') := fun W => by
          have := dataOf_any (ofL (Cd.putS (hfO D) 8)) W (by rw [ofL_size, Cd.putS_length]; omega)
          rwa [ofL_list] at this
        have hne : ∀ W, (binOp .neq 104 (.agg ((padB D).map cellB).toArray) (.agg ((padB (Cd.putS (hfO D) 8)).map cellB).toArray)).run Tryz.prog W = .ok (.bool (!decide (padB D = padB (Cd.putS (hfO D) 8)))) W := fun W => neq4 _ _ hpl hql W
        have hHD : Hid (hdB D = (!decide (hfO D < 1) && !decide (4611686018427387904 < hfO D) && decide (padB D = padB (Cd.putS (hfO D) 8)))) := rfl
        generalize hz : decide (padB D = padB (Cd.putS (hfO D) 8)) = Z at *
        generalize ((padB D).map cellB).toArray = A1 at *
        generalize ((padB (Cd.putS (hfO D) 8)).map cellB).toArray = A2 at *
        have KH : Hid (∀ W, Calls Tryz.prog 115 #[.int .i64 (hfO D)] W fun e w' => e = .returned (.string (ofL (Cd.putS (hfO D) 8))) ∧ Below W.heap.size W w') := fun W => headB_any _ W
        clear hpl hql hz hsz hl hlen
        generalize hfO D = f at *
        by_cases d1 : f < 1
        · have HR : Hid (rhN S V i = 0 ∧ rhF S V i = 0) := by
            unfold Hid
            rw [hN.out, hF.out]; rw [hHD.out]; simp [d1]
          clear hN hF
          go_enter Tryz.func129, Tryz.ntmps129
          go_wp2_with (first
            | (go_at_call 80; (with_reducible refine KD.out.mono ?_); rintro e w1 ⟨rfl, ht⟩; have HT := Lib.hid ht; clear ht)
            | (go_at_call 101; (with_reducible refine (KM.out _).mono ?_); rintro e w2 ⟨rfl, rfl⟩)
            | (go_at_call 102; (with_reducible refine (KN.out w1 (Below.refl _ _)).mono ?_); rintro e w3 ⟨rfl, hb3⟩))
          go_ret2
          rw [HR.out.1, HR.out.2]
          exact ⟨rfl, HT.out.then_below hb3⟩
        · by_cases d2 : 4611686018427387904 < f
          · have HR : Hid (rhN S V i = 0 ∧ rhF S V i = 0) := by
              unfold Hid
              rw [hN.out, hF.out]; rw [hHD.out]; simp [d1, d2]
            clear hN hF
            have e1 : decide (f < 1) = false := decide_eq_false d1
            have e2 : decide (4611686018427387904 < f) = true := decide_eq_true d2
            clear d1 d2
            go_enter Tryz.func129, Tryz.ntmps129
            go_wp2_with (first
              | (go_at_call 80; (with_reducible refine KD.out.mono ?_); rintro e w1 ⟨rfl, ht⟩; have HT := Lib.hid ht; clear ht)
              | (go_at_call 101; (with_reducible refine (KM.out _).mono ?_); rintro e w2 ⟨rfl, rfl⟩)
              | (go_at_call 102; (with_reducible refine (KN.out w1 (Below.refl _ _)).mono ?_); rintro e w3 ⟨rfl, hb3⟩))
            go_ret2
            rw [HR.out.1, HR.out.2]
            exact ⟨rfl, HT.out.then_below hb3⟩
          · cases Z with
            | false =>
              have HR : Hid (rhN S V i = 0 ∧ rhF S V i = 0) := by
                unfold Hid
                rw [hN.out, hF.out]; rw [hHD.out]; simp
              clear hN hF
              have e1 : decide (f < 1) = false := decide_eq_false d1
              have e2 : decide (4611686018427387904 < f) = false := decide_eq_false d2
              clear d1 d2
              go_enter Tryz.func129, Tryz.ntmps129
              go_wp2_with (first
                | (go_at_call 80; (with_reducible refine KD.out.mono ?_); rintro e w1 ⟨rfl, ht⟩; have HT := Lib.hid ht; clear ht)
                | (go_at_call 101; (with_reducible refine (KM.out _).mono ?_); rintro e w2 ⟨rfl, rfl⟩)
                | (go_at_call 102; (with_reducible refine (KN.out w1 (Below.refl _ _)).mono ?_); rintro e w3 ⟨rfl, hb3⟩)
                | (go_at_call 96; (with_reducible refine (KA.out _).mono ?_); rintro e w4 ⟨rfl, hb4⟩)
                | (go_at_call 115; (with_reducible refine (KH.out _).mono ?_); rintro e w5 ⟨rfl, hb5⟩)
                | (go_at_call 96; (with_reducible refine (KB.out _).mono ?_); rintro e w6 ⟨rfl, hb6⟩))
              go_ret2
              rw [HR.out.1, HR.out.2]
              exact ⟨rfl, HT.out.then_below (hb3.trans ((hb4.trans ((hb5.trans (hb6.mono hb5.size)).mono hb4.size)).mono hb3.size))⟩
            | true =>
              have HR : Hid (rhN S V i = N ∧ rhF S V i = f) := by
                unfold Hid
                rw [hN.out, hF.out]; rw [hHD.out]; simp [b, c, d1, d2]
              clear hN hF
              have e1 : decide (f < 1) = false := decide_eq_false d1
              have e2 : decide (4611686018427387904 < f) = false := decide_eq_false d2
              clear d1 d2
              go_enter Tryz.func129, Tryz.ntmps129
              go_wp2_with (first
                | (go_at_call 80; (with_reducible refine KD.out.mono ?_); rintro e w1 ⟨rfl, ht⟩; have HT := Lib.hid ht; clear ht)
                | (go_at_call 101; (with_reducible refine (KM.out _).mono ?_); rintro e w2 ⟨rfl, rfl⟩)
                | (go_at_call 102; (with_reducible refine (KN.out w1 (Below.refl _ _)).mono ?_); rintro e w3 ⟨rfl, hb3⟩)
                | (go_at_call 96; (with_reducible refine (KA.out _).mono ?_); rintro e w4 ⟨rfl, hb4⟩)
                | (go_at_call 115; (with_reducible refine (KH.out _).mono ?_); rintro e w5 ⟨rfl, hb5⟩)
                | (go_at_call 96; (with_reducible refine (KB.out _).mono ?_); rintro e w6 ⟨rfl, hb6⟩))
              go_ret2
              rw [HR.out.1, HR.out.2]
              exact ⟨rfl, HT.out.then_below (hb3.trans ((hb4.trans ((hb5.trans (hb6.mono hb5.size)).mono hb4.size)).mono hb3.size))⟩
      · have cb : (N % 2 != (i : Int)) = true := by simp [c]
        have HR : Hid (rhN S V i = 0 ∧ rhF S V i = 0) := by
          unfold Hid
          rw [hN.out, hF.out]; simp [c]
        clear hN hF
        go_enter Tryz.func129, Tryz.ntmps129
        go_wp2_with (first
          | (go_at_call 80; (with_reducible refine KD.out.mono ?_); rintro e w1 ⟨rfl, ht⟩; have HT := Lib.hid ht; clear ht))
        go_ret2
        rw [HR.out.1, HR.out.2]
        exact ⟨rfl, HT.out⟩
  · have ab : (E != 0) = true := by simp [a]
    have HR : Hid (rhN S V i = 0 ∧ rhF S V i = 0) := by
      unfold Hid
      rw [hN.out, hF.out]; simp [a]
    clear hN hF
    go_enter Tryz.func129, Tryz.ntmps129
    go_wp2_with (first
      | (go_at_call 80; (with_reducible refine KD.out.mono ?_); rintro e w1 ⟨rfl, ht⟩; have HT := Lib.hid ht; clear ht))
    go_ret2
    rw [HR.out.1, HR.out.2]
    exact ⟨rfl, HT.out⟩
end Go.Proofs.YtjippoejaieneaaGreat
