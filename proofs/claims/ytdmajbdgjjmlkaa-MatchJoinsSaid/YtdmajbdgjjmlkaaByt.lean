/- The reader: how often, digits of base sixteen, bytes as they are told: what the calls return, how a fault goes out. Conditions: the reader lies in memory. -/
import Derived.Test.YtdmajbdgjjmlkaaNum
import Derived.Laws.Externs
namespace Go.Proofs.Ytdmajbdgjjmlkaa
open Go.RowKit
set_option linter.unusedVariables false

theorem idx_extern (s : ByteArray) (c : Int) (w : World) : (callFunc 91 #[.string s, .int .u8 c]).run Try.prog w = .ok (.value (.int .i64 (Lib.indexByte s.data.toList c.toNat.toUInt8))) w := by
  rw [run_callFunc_extern Try.func91 (by kernel_rfl) (by kernel_rfl) (by kernel_rfl) (e := Extern.BytealgIndexByte.indexByte) (by kernel_rfl), Lib.run_indexByteString]
  rfl
set_option maxHeartbeats 400000 in
theorem idx_any (s : ByteArray) (c : UInt8) (w : World) : Calls Try.prog 85 #[.string s, .int .u8 (c.toNat : Nat)] w fun e w' => e = .returned (.int .i64 (Lib.indexByte s.data.toList c)) ∧ w = w' := by
  have X := idx_extern s (c.toNat : Nat)
  have e : ((c.toNat : Nat) : Int).toNat.toUInt8 = c := by simp
  rw [e] at X
  generalize c.toNat = n at *
  generalize Lib.indexByte s.data.toList c = r at *
  go_enter Try.func85, Try.ntmps85
  go_wp2
  go_ret
  exact ⟨rfl, rfl⟩
theorem isNext_iff {c : UInt8} {l : Bs} (h : isNext c l = true) : l = c :: l.tail := by
  cases l with
  | nil => cases h
  | cons x l => simp [isNext] at h; subst h; rfl
theorem wantP_eq (c : UInt8) (l : Bs) : wantP c l = if isNext c l then some l.tail else none := by
  cases l with
  | nil => rfl
  | cons x l => rfl
/-- what a reading call of two numbers leaves -/
def PostT (b : Nat) (w : World) (r : Option (Int × Int × Bs)) (e : Ending) (w' : World) : Prop :=
  match r with
  | some (m, n, l) => e = .returned (.tuple #[.int .i64 m, .int .i64 n]) ∧ Step b w w' l
  | none => e = pan ∧ w.grownBy w' (some b)
theorem numberP_le {l l1 : Bs} {n : Nat} (h : numberP l = some (n, l1)) : n ≤ 15 := by
  unfold numberP at h
  split at h
  · cases h
  · split at h
    split at h
    · cases h
    · simp only [Option.some.injEq, Prod.mk.injEq] at h
      omega
set_option maxHeartbeats 1000000 in
theorem times_any (b : Nat) (l : Bs) (w : World) (h : St w b l) : Calls Try.prog 69 #[.pointer (some ⟨b, 0, none⟩)] w (PostT b w (timesP l)) := by
  have RN := Lib.hid refuse_no
  have RY := Lib.hid refuse_yes
  have A := number_any b l w h
  clear h
  unfold timesP
  cases hn : numberP l with
  | none =>
    rw [hn] at A
    unfold PostI at A
    unfold PostT
    have A1 := Lib.hid A
    clear A hn
    go_enter Try.func69, Try.ntmps69
    go_wp2_with (go_at_call 79; (with_reducible refine (A1.out).mono ?_); rintro e w1 ⟨rfl, s1⟩)
    exact ⟨rfl, rfl, s1⟩
  | some p =>
    obtain ⟨n, l1⟩ := p
    rw [hn] at A
    unfold PostI at A
    have A1 := Lib.hid A
    have hle := numberP_le hn
    clear A hn
    dsimp only
    cases h1 : isNext 125 l1 with
    | true =>
      have e1 := isNext_iff h1
      have T1 : Hid (∀ w1, St w1 b l1 → Calls Try.prog 61 #[.pointer (some ⟨b, 0, none⟩), .int .u8 125] w1 fun e w' => e = .returned (.bool true) ∧ Step b w1 w' l1.tail) := fun w1 q => takes_yes b 125 l1.tail w1 (by rw [← e1]; exact q)
      rw [if_pos rfl]
      unfold PostT
      clear e1 h1
      go_enter Try.func69, Try.ntmps69
      go_wp2_with (first
        | (go_at_call 79; (with_reducible refine (A1.out).mono ?_); rintro e w1 ⟨rfl, s1⟩; have t1 := s1.st)
        | (go_at_call 61; (with_reducible refine (T1.out _ t1).mono ?_); rintro e w2 ⟨rfl, s2⟩))
      go_ret2
      exact ⟨rfl, s1.trans s2⟩
    | false =>
      have T1 : Hid (∀ w1, St w1 b l1 → Calls Try.prog 61 #[.pointer (some ⟨b, 0, none⟩), .int .u8 125] w1 fun e w' => e = .returned (.bool false) ∧ Step b w1 w' l1) := fun w1 q => takes_no b 125 l1 w1 q h1
      rw [if_neg (by decide), wantP_eq]
      cases h2 : isNext 44 l1 with
      | false =>
        have W1 : Hid (∀ w1, St w1 b l1 → Calls Try.prog 73 #[.pointer (some ⟨b, 0, none⟩), .int .u8 44] w1 fun e w' => e = pan ∧ w1.grownBy w' (some b)) := fun w1 q => wants_no b 44 l1 w1 q h2
        rw [if_neg (by decide)]
        unfold PostT
        clear h1 h2
        go_enter Try.func69, Try.ntmps69
        go_wp2_with (first
          | (go_at_call 79; (with_reducible refine (A1.out).mono ?_); rintro e w1 ⟨rfl, s1⟩; have t1 := s1.st)
          | (go_at_call 61; (with_reducible refine (T1.out _ t1).mono ?_); rintro e w2 ⟨rfl, s2⟩; have t2 := s2.st)
          | (go_at_call 73; (with_reducible refine (W1.out _ t2).mono ?_); rintro e w3 ⟨rfl, s3⟩))
        exact ⟨rfl, rfl, grown_trans (s1.trans s2).grown s3⟩
      | true =>
        have e2 := isNext_iff h2
        have W1 : Hid (∀ w1, St w1 b l1 → Calls Try.prog 73 #[.pointer (some ⟨b, 0, none⟩), .int .u8 44] w1 fun e w' => e = .returned (.tuple #[]) ∧ Step b w1 w' l1.tail) := fun w1 q => wants_yes b 44 l1.tail w1 (by rw [← e2]; exact q)
        rw [if_pos rfl]
        dsimp only
        clear e2 h2 h1
        generalize l1.tail = l2 at *
        cases h3 : isNext 125 l2 with
        | true =>
          have e3 := isNext_iff h3
          have T2 : Hid (∀ w1, St w1 b l2 → Calls Try.prog 61 #[.pointer (some ⟨b, 0, none⟩), .int .u8 125] w1 fun e w' => e = .returned (.bool true) ∧ Step b w1 w' l2.tail) := fun w1 q => takes_yes b 125 l2.tail w1 (by rw [← e3]; exact q)
          rw [if_pos rfl]
          unfold PostT
          clear e3 h3
          go_enter Try.func69, Try.ntmps69
          go_wp2_with (first
            | (go_at_call 79; (with_reducible refine (A1.out).mono ?_); rintro e w1 ⟨rfl, s1⟩; have t1 := s1.st)
            | (go_at_call 61; (with_reducible refine (T1.out _ t1).mono ?_); rintro e w2 ⟨rfl, s2⟩; have t2 := s2.st)
            | (go_at_call 73; (with_reducible refine (W1.out _ t2).mono ?_); rintro e w3 ⟨rfl, s3⟩; have t3 := s3.st)
            | (go_at_call 61; (with_reducible refine (T2.out _ t3).mono ?_); rintro e w4 ⟨rfl, s4⟩))
          go_ret2
          exact ⟨rfl, ((s1.trans s2).trans s3).trans s4⟩
        | false =>
          have T2 : Hid (∀ w1, St w1 b l2 → Calls Try.prog 61 #[.pointer (some ⟨b, 0, none⟩), .int .u8 125] w1 fun e w' => e = .returned (.bool false) ∧ Step b w1 w' l2) := fun w1 q => takes_no b 125 l2 w1 q h3
          rw [if_neg (by decide)]
          have N2 := fun w1 (q : St w1 b l2) => number_any b l2 w1 q
          cases hn2 : numberP l2 with
          | none =>
            rw [hn2] at N2
            unfold PostI at N2
            unfold PostT
            have A2 := Lib.hid N2
            clear N2 hn2 h3
            go_enter Try.func69, Try.ntmps69
            go_wp2_with (first
              | (go_at_call 79; (with_reducible refine (A1.out).mono ?_); rintro e w1 ⟨rfl, s1⟩; have t1 := s1.st)
              | (go_at_call 61; (with_reducible refine (T1.out _ t1).mono ?_); rintro e w2 ⟨rfl, s2⟩; have t2 := s2.st)
              | (go_at_call 73; (with_reducible refine (W1.out _ t2).mono ?_); rintro e w3 ⟨rfl, s3⟩; have t3 := s3.st)
              | (go_at_call 61; (with_reducible refine (T2.out _ t3).mono ?_); rintro e w4 ⟨rfl, s4⟩; have t4 := s4.st)
              | (go_at_call 79; (with_reducible refine (A2.out _ t4).mono ?_); rintro e w5 ⟨rfl, s5⟩))
            exact ⟨rfl, rfl, grown_trans (((s1.trans s2).trans s3).trans s4).grown s5⟩
          | some p2 =>
            obtain ⟨m, l3⟩ := p2
            rw [hn2] at N2
            unfold PostI at N2
            have A2 := Lib.hid N2
            clear N2 hn2 h3
            dsimp only
            rw [wantP_eq]
            cases h4 : isNext 125 l3 with
            | false =>
              have W2 : Hid (∀ w1, St w1 b l3 → Calls Try.prog 73 #[.pointer (some ⟨b, 0, none⟩), .int .u8 125] w1 fun e w' => e = pan ∧ w1.grownBy w' (some b)) := fun w1 q => wants_no b 125 l3 w1 q h4
              rw [if_neg (by decide)]
              unfold PostT
              clear h4
              go_enter Try.func69, Try.ntmps69
              go_wp2_with (first
                | (go_at_call 79; (with_reducible refine (A1.out).mono ?_); rintro e w1 ⟨rfl, s1⟩; have t1 := s1.st)
                | (go_at_call 61; (with_reducible refine (T1.out _ t1).mono ?_); rintro e w2 ⟨rfl, s2⟩; have t2 := s2.st)
                | (go_at_call 73; (with_reducible refine (W1.out _ t2).mono ?_); rintro e w3 ⟨rfl, s3⟩; have t3 := s3.st)
                | (go_at_call 61; (with_reducible refine (T2.out _ t3).mono ?_); rintro e w4 ⟨rfl, s4⟩; have t4 := s4.st)
                | (go_at_call 79; (with_reducible refine (A2.out _ t4).mono ?_); rintro e w5 ⟨rfl, s5⟩; have t5 := s5.st)
                | (go_at_call 73; (with_reducible refine (W2.out _ t5).mono ?_); rintro e w6 ⟨rfl, s6⟩))
              exact ⟨rfl, rfl, grown_trans ((((s1.trans s2).trans s3).trans s4).trans s5).grown s6⟩
            | true =>
              have e4 := isNext_iff h4
              have W2 : Hid (∀ w1, St w1 b l3 → Calls Try.prog 73 #[.pointer (some ⟨b, 0, none⟩), .int .u8 125] w1 fun e w' => e = .returned (.tuple #[]) ∧ Step b w1 w' l3.tail) := fun w1 q => wants_yes b 125 l3.tail w1 (by rw [← e4]; exact q)
              rw [if_pos rfl]
              have AT := Lib.hid (areT_any (n : Int) (m : Int))
              clear e4 h4
              dsimp only
              cases h5 : areT (n : Int) (m : Int) with
              | false =>
                rw [h5] at AT
                rw [if_neg (by decide)]
                unfold PostT
                clear h5
                go_enter Try.func69, Try.ntmps69
                go_wp2_with (first
                  | (go_at_call 79; (with_reducible refine (A1.out).mono ?_); rintro e w1 ⟨rfl, s1⟩; have t1 := s1.st)
                  | (go_at_call 61; (with_reducible refine (T1.out _ t1).mono ?_); rintro e w2 ⟨rfl, s2⟩; have t2 := s2.st)
                  | (go_at_call 73; (with_reducible refine (W1.out _ t2).mono ?_); rintro e w3 ⟨rfl, s3⟩; have t3 := s3.st)
                  | (go_at_call 61; (with_reducible refine (T2.out _ t3).mono ?_); rintro e w4 ⟨rfl, s4⟩; have t4 := s4.st)
                  | (go_at_call 79; (with_reducible refine (A2.out _ t4).mono ?_); rintro e w5 ⟨rfl, s5⟩; have t5 := s5.st)
                  | (go_at_call 73; (with_reducible refine (W2.out _ t5).mono ?_); rintro e w6 ⟨rfl, s6⟩)
                  | (go_at_call 66; (with_reducible refine (AT.out _).mono ?_); rintro e w' ⟨rfl, rfl⟩)
                  | (go_at_call 55; (with_reducible refine (RY.out _).mono ?_); rintro e w' ⟨rfl, rfl⟩))
                exact ⟨rfl, rfl, (((((s1.trans s2).trans s3).trans s4).trans s5).trans s6).grown⟩
              | true =>
                rw [h5] at AT
                rw [if_pos rfl]
                unfold PostT
                clear h5
                go_enter Try.func69, Try.ntmps69
                go_wp2_with (first
                  | (go_at_call 79; (with_reducible refine (A1.out).mono ?_); rintro e w1 ⟨rfl, s1⟩; have t1 := s1.st)
                  | (go_at_call 61; (with_reducible refine (T1.out _ t1).mono ?_); rintro e w2 ⟨rfl, s2⟩; have t2 := s2.st)
                  | (go_at_call 73; (with_reducible refine (W1.out _ t2).mono ?_); rintro e w3 ⟨rfl, s3⟩; have t3 := s3.st)
                  | (go_at_call 61; (with_reducible refine (T2.out _ t3).mono ?_); rintro e w4 ⟨rfl, s4⟩; have t4 := s4.st)
                  | (go_at_call 79; (with_reducible refine (A2.out _ t4).mono ?_); rintro e w5 ⟨rfl, s5⟩; have t5 := s5.st)
                  | (go_at_call 73; (with_reducible refine (W2.out _ t5).mono ?_); rintro e w6 ⟨rfl, s6⟩)
                  | (go_at_call 66; (with_reducible refine (AT.out _).mono ?_); rintro e w' ⟨rfl, rfl⟩)
                  | (go_at_call 55; (with_reducible refine (RN.out _).mono ?_); rintro e w' ⟨rfl, rfl⟩))
                go_ret2
                exact ⟨rfl, ((((s1.trans s2).trans s3).trans s4).trans s5).trans s6⟩
end Go.Proofs.Ytdmajbdgjjmlkaa
