/- The reader: what must stand next, digits, numbers, how often: what the calls return, how a fault goes out. Conditions: the reader lies in memory. -/
import Derived.Test.YtdmajbdgjjmlkaaRed
namespace Go.Proofs.Ytdmajbdgjjmlkaa
open Go.RowKit
set_option linter.unusedVariables false

theorem ret_int {k : IntKind} {a b : Int} (h : a = b) : Ending.returned (.int k a) = .returned (.int k b) := by rw [h]
set_option maxHeartbeats 400000 in
theorem wants_yes (b : Nat) (c : UInt8) (l : Bs) (w : World) (h : St w b (c :: l)) : Calls Try.prog 73 #[.pointer (some ⟨b, 0, none⟩), .int .u8 (c.toNat : Nat)] w fun e w' => e = .returned (.tuple #[]) ∧ Step b w w' l := by
  have A := Lib.hid (takes_yes b c l w h)
  have R := Lib.hid refuse_no
  clear h
  go_enter Try.func73, Try.ntmps73
  go_wp2_with (first
    | (go_at_call 61; (with_reducible refine (A.out).mono ?_); rintro e w1 ⟨rfl, s1⟩)
    | (go_at_call 55; (with_reducible refine (R.out _).mono ?_); rintro e w' ⟨rfl, rfl⟩))
  go_end0
  exact ⟨rfl, s1⟩
set_option maxHeartbeats 400000 in
theorem wants_no (b : Nat) (c : UInt8) (l : Bs) (w : World) (h : St w b l) (hn : isNext c l = false) : Calls Try.prog 73 #[.pointer (some ⟨b, 0, none⟩), .int .u8 (c.toNat : Nat)] w fun e w' => e = pan ∧ w.grownBy w' (some b) := by
  have A := Lib.hid (takes_no b c l w h hn)
  have R := Lib.hid refuse_yes
  clear h hn
  go_enter Try.func73, Try.ntmps73
  go_wp2_with (first
    | (go_at_call 61; (with_reducible refine (A.out).mono ?_); rintro e w1 ⟨rfl, s1⟩)
    | (go_at_call 55; (with_reducible refine (R.out _).mono ?_); rintro e w' ⟨rfl, rfl⟩))
  exact ⟨rfl, rfl, s1.grown⟩
set_option maxHeartbeats 400000 in
theorem isDigit_any (c : UInt8) (w : World) : Calls Try.prog 87 #[.int .u8 (c.toNat : Nat)] w fun e w' => e = .returned (.bool (isDig c)) ∧ w = w' := by
  obtain ⟨r, hr⟩ : ∃ r, r = isDig c := ⟨_, rfl⟩
  rw [← hr]
  unfold isDig at hr
  have hd : decide ((48 : Int) ≤ (c.toNat : Int)) = decide (48 ≤ c.toNat) := by rw [decide_eq_decide]; omega
  have hd2 : decide ((c.toNat : Int) ≤ 57) = decide (c.toNat ≤ 57) := by rw [decide_eq_decide]; omega
  rw [← hd, ← hd2] at hr
  generalize c.toNat = n at *
  have HR := Lib.hid hr
  clear hr hd hd2
  go_enter Try.func87, Try.ntmps87
  go_wp2
  all_goals
    go_ret
    exact ⟨ret_bool (by rw [HR.out]; simp [*]; try omega), rfl⟩
theorem digitP_cons (c : UInt8) (l : Bs) : digitP (c :: l) = if isDig c then some (c.toNat - 48, l) else none := rfl
theorem isDig_iff (c : UInt8) : isDig c = true ↔ 48 ≤ c.toNat ∧ c.toNat ≤ 57 := by simp [isDig]
set_option maxHeartbeats 400000 in
theorem digit_yes (b : Nat) (c : UInt8) (l : Bs) (w : World) (h : St w b (c :: l)) (hd : isDig c = true) : Calls Try.prog 86 #[.pointer (some ⟨b, 0, none⟩)] w fun e w' => e = .returned (.int .i64 ((c.toNat - 48 : Nat) : Int)) ∧ Step b w w' l := by
  have A := Lib.hid (take_yes b c l w h)
  have D := Lib.hid (isDigit_any c)
  have R := Lib.hid refuse_no
  rw [hd] at D
  rw [isDig_iff] at hd
  have h1 : (48 : Int) ≤ (c.toNat : Int) := by omega
  have h2 : (c.toNat : Int) ≤ 57 := by omega
  have e : Hid ((c.toNat : Int) - 48 = ((c.toNat - 48 : Nat) : Int)) := by unfold Hid; omega
  clear h hd
  go_enter Try.func86, Try.ntmps86
  go_wp2_with (first
    | (go_at_call 83; (with_reducible refine (A.out).mono ?_); rintro e w1 ⟨rfl, s1⟩)
    | (go_at_call 87; (with_reducible refine (D.out _).mono ?_); rintro e w' ⟨rfl, rfl⟩)
    | (go_at_call 55; (with_reducible refine (R.out _).mono ?_); rintro e w' ⟨rfl, rfl⟩))
  go_ret
  exact ⟨ret_int (by rw [← e.out]), s1⟩
set_option maxHeartbeats 400000 in
theorem digit_no (b : Nat) (l : Bs) (w : World) (h : St w b l) (hn : digitP l = none) : Calls Try.prog 86 #[.pointer (some ⟨b, 0, none⟩)] w fun e w' => e = pan ∧ w.grownBy w' (some b) := by
  cases l with
  | nil =>
    have A := Lib.hid (take_no b w h)
    clear h hn
    go_enter Try.func86, Try.ntmps86
    go_wp2_with (go_at_call 83; (with_reducible refine (A.out).mono ?_); rintro e w1 ⟨rfl, s1⟩)
    exact ⟨rfl, rfl, s1⟩
  | cons c l =>
    have A := Lib.hid (take_yes b c l w h)
    have D := Lib.hid (isDigit_any c)
    have hd : isDig c = false := by
      rw [digitP_cons] at hn
      cases q : isDig c with
      | false => rfl
      | true => rw [q] at hn; simp at hn
    have R := Lib.hid refuse_yes
    rw [hd] at D
    clear h hn hd
    go_enter Try.func86, Try.ntmps86
    go_wp2_with (first
      | (go_at_call 83; (with_reducible refine (A.out).mono ?_); rintro e w1 ⟨rfl, s1⟩)
      | (go_at_call 87; (with_reducible refine (D.out _).mono ?_); rintro e w' ⟨rfl, rfl⟩)
      | (go_at_call 55; (with_reducible refine (R.out _).mono ?_); rintro e w' ⟨rfl, rfl⟩))
    exact ⟨rfl, rfl, s1.grown⟩
/-- what a reading call leaves -/
def PostI (b : Nat) (w : World) (r : Option (Nat × Bs)) (e : Ending) (w' : World) : Prop :=
  match r with
  | some (m, l) => e = .returned (.int .i64 (m : Int)) ∧ Step b w w' l
  | none => e = pan ∧ w.grownBy w' (some b)
set_option maxHeartbeats 1000000 in
theorem number_any (b : Nat) (l : Bs) (w : World) (h : St w b l) : Calls Try.prog 79 #[.pointer (some ⟨b, 0, none⟩)] w (PostI b w (numberP l)) := by
  have RN := Lib.hid refuse_no
  have RY := Lib.hid refuse_yes
  cases hd : digitP l with
  | none =>
    have e : numberP l = none := by unfold numberP; rw [hd]
    rw [e]
    unfold PostI
    have A := Lib.hid (digit_no b l w h hd)
    clear h hd e
    go_enter Try.func79, Try.ntmps79
    go_wp2_with (go_at_call 86; (with_reducible refine (A.out).mono ?_); rintro e w1 ⟨rfl, s1⟩)
    exact ⟨rfl, rfl, s1⟩
  | some p =>
    obtain ⟨n, l1⟩ := p
    match l, hd with
    | c :: l', hd =>
      rw [digitP_cons] at hd
      cases hc : isDig c with
      | false => rw [hc] at hd; cases hd
      | true =>
        rw [hc] at hd
        simp only [if_true, Option.some.injEq, Prod.mk.injEq] at hd
        obtain ⟨rfl, rfl⟩ := hd
        have A := Lib.hid (digit_yes b c l' w h hc)
        have hcb := (isDig_iff c).1 hc
        have hN : numberP (c :: l') = match (match l' with | d :: l2 => if c.toNat - 48 > 0 && isDig d then (10 * (c.toNat - 48) + (d.toNat - 48), l2) else (c.toNat - 48, l') | [] => (c.toNat - 48, l')) with | (m, l3) => if m > 15 then none else some (m, l3) := by
          unfold numberP; rw [digitP_cons, hc]; rfl
        have hn9 : c.toNat - 48 ≤ 9 := by omega
        generalize c.toNat - 48 = n at *
        by_cases hn0 : n = 0
        · subst hn0
          have e : numberP (c :: l') = some (0, l') := by rw [hN]; cases l' <;> rfl
          rw [e]
          unfold PostI
          clear h hN e hc hcb hn9
          go_enter Try.func79, Try.ntmps79
          go_wp2_with (first
            | (go_at_call 86; (with_reducible refine (A.out).mono ?_); rintro e w1 ⟨rfl, s1⟩)
            | (go_at_call 55; (with_reducible refine (RN.out _).mono ?_); rintro e w' ⟨rfl, rfl⟩))
          go_ret
          exact ⟨rfl, s1⟩
        · have hni : (0 : Int) < (n : Int) := by omega
          have hni9 : (n : Int) ≤ 9 := by omega
          have d15 : decide ((15 : Int) < (n : Int)) = false := by simp; omega
          cases l' with
          | nil =>
            have e : numberP [c] = some (n, []) := by rw [hN]; simp; omega
            rw [e]
            unfold PostI
            have es : str [] = ⟨#[]⟩ := rfl
            have SC : Hid (∀ w1, St w1 b [] → w1.cell? ⟨b, 0, none⟩ = some (.string ⟨#[]⟩)) := fun w1 q => q.cell
            clear h hN e hc hcb hn9 hn0
            go_enter Try.func79, Try.ntmps79
            go_wp2_with (first
              | (go_at_call 86; (with_reducible refine (A.out).mono ?_); rintro e w1 ⟨rfl, s1⟩; have c1 := SC.out _ s1.st)
              | (go_at_call 55; (with_reducible refine (RN.out _).mono ?_); rintro e w' ⟨rfl, rfl⟩))
            go_ret
            exact ⟨rfl, s1⟩
          | cons d l2 =>
            obtain ⟨s, hs, g1, g2, g3, g4, g5⟩ := str_cons d l2
            have SC : Hid (∀ w1, St w1 b (d :: l2) → w1.cell? ⟨b, 0, none⟩ = some (.string s)) := fun w1 q => by rw [← hs]; exact q.cell
            have D := Lib.hid (isDigit_any d)
            have es0 := g2 g1
            cases hdd : isDig d with
            | false =>
              have e : numberP (c :: d :: l2) = some (n, d :: l2) := by rw [hN]; simp only [hdd]; simp; omega
              rw [e]
              unfold PostI
              rw [hdd, ← es0] at D
              clear h hN e hc hcb hn9 hn0 hs g2 g3 hdd es0
              go_enter Try.func79, Try.ntmps79
              go_wp2_with (first
                | (go_at_call 86; (with_reducible refine (A.out).mono ?_); rintro e w1 ⟨rfl, s1⟩; have c1 := SC.out _ s1.st)
                | (go_at_call 87; (with_reducible refine (D.out _).mono ?_); rintro e w' ⟨rfl, rfl⟩)
                | (go_at_call 55; (with_reducible refine (RN.out _).mono ?_); rintro e w' ⟨rfl, rfl⟩))
              go_ret
              exact ⟨rfl, s1⟩
            | true =>
              have B : Hid (∀ w1, St w1 b (d :: l2) → Calls Try.prog 86 #[.pointer (some ⟨b, 0, none⟩)] w1 fun e w' => e = .returned (.int .i64 ((d.toNat - 48 : Nat) : Int)) ∧ Step b w1 w' l2) := fun w1 q => digit_yes b d l2 w1 q hdd
              have hdb := (isDig_iff d).1 hdd
              have hN2 : numberP (c :: d :: l2) = if 10 * n + (d.toNat - 48) > 15 then none else some (10 * n + (d.toNat - 48), l2) := by rw [hN]; simp only [hdd]; simp [show n > 0 by omega]
              rw [hN2]
              rw [hdd, ← es0] at D
              have hm9 : d.toNat - 48 ≤ 9 := by omega
              generalize d.toNat - 48 = m at *
              have hmi : (m : Int) ≤ 9 := by omega
              have hm0 : (0 : Int) ≤ (m : Int) := by omega
              clear h hN hN2 hc hcb hn9 hn0 hs g2 g3 hdd es0 hdb
              by_cases h15 : 10 * n + m > 15
              · rw [if_pos h15]
                unfold PostI
                have h15i : (15 : Int) < 10 * (n : Int) + (m : Int) := by omega
                clear d15
                go_enter Try.func79, Try.ntmps79
                go_wp2_with (first
                  | (go_at_call 86; (with_reducible refine (A.out).mono ?_); rintro e w1 ⟨rfl, s1⟩; have c1 := SC.out _ s1.st; have t1 := s1.st)
                  | (go_at_call 87; (with_reducible refine (D.out _).mono ?_); rintro e w' ⟨rfl, rfl⟩)
                  | (go_at_call 86; (with_reducible refine (B.out _ t1).mono ?_); rintro e w2 ⟨rfl, s2⟩)
                  | (go_at_call 55; (with_reducible refine (RY.out _).mono ?_); rintro e w' ⟨rfl, rfl⟩))
                exact ⟨rfl, rfl, (s1.trans s2).grown⟩
              · rw [if_neg h15]
                unfold PostI
                have h15i : ¬ (15 : Int) < 10 * (n : Int) + (m : Int) := by omega
                have h15d : decide ((15 : Int) < 10 * (n : Int) + (m : Int)) = false := by simpa using h15i
                have hv : Hid (10 * (n : Int) + (m : Int) = ((10 * n + m : Nat) : Int)) := by unfold Hid; omega
                clear d15
                go_enter Try.func79, Try.ntmps79
                go_wp2_with (first
                  | (go_at_call 86; (with_reducible refine (A.out).mono ?_); rintro e w1 ⟨rfl, s1⟩; have c1 := SC.out _ s1.st; have t1 := s1.st)
                  | (go_at_call 87; (with_reducible refine (D.out _).mono ?_); rintro e w' ⟨rfl, rfl⟩)
                  | (go_at_call 86; (with_reducible refine (B.out _ t1).mono ?_); rintro e w2 ⟨rfl, s2⟩)
                  | (go_at_call 55; (with_reducible refine (RN.out _).mono ?_); rintro e w' ⟨rfl, rfl⟩))
                go_ret
                exact ⟨ret_int (by rw [← hv.out]), s1.trans s2⟩
end Go.Proofs.Ytdmajbdgjjmlkaa
