/- The reader: digits of base sixteen, bytes behind a backslash, bytes that are none of some: what the calls return, how a fault goes out. Conditions: the reader lies in memory. -/
import Derived.Test.YtdmajbdgjjmlkaaByt
namespace Go.Proofs.Ytdmajbdgjjmlkaa
open Go.RowKit
set_option linter.unusedVariables false

def hexS : ByteArray := ⟨#[48, 49, 50, 51, 52, 53, 54, 55, 56, 57, 97, 98, 99, 100, 101, 102]⟩
theorem idx_neg (l : Bs) (c : UInt8) : Lib.indexByte l c = -1 ∨ 0 ≤ Lib.indexByte l c := by
  induction l with
  | nil => exact .inl rfl
  | cons x l ih =>
    unfold Lib.indexByte
    split
    · exact .inr (Int.le_refl _)
    · split
      · exact .inl rfl
      · rename_i h
        rcases ih with e | e
        · rw [e] at h; exact absurd rfl h
        · exact .inr (by omega)
theorem idx_lt (l : Bs) (c : UInt8) : Lib.indexByte l c < l.length := by
  induction l with
  | nil => show (-1 : Int) < 0; decide
  | cons x l ih =>
    unfold Lib.indexByte
    rw [List.length_cons]
    split
    · omega
    · split <;> omega
set_option maxHeartbeats 1000000 in
theorem hex_any (b : Nat) (l : Bs) (w : World) (h : St w b l) : Calls Try.prog 89 #[.pointer (some ⟨b, 0, none⟩)] w (PostI b w (hexP l)) := by
  have RN := Lib.hid refuse_no
  have RY := Lib.hid refuse_yes
  cases l with
  | nil =>
    have A := Lib.hid (take_no b w h)
    show Calls _ _ _ _ (PostI b w none)
    unfold PostI
    clear h
    go_enter Try.func89, Try.ntmps89
    go_wp2_with (go_at_call 83; (with_reducible refine (A.out).mono ?_); rintro e w1 ⟨rfl, s1⟩)
    exact ⟨rfl, rfl, s1⟩
  | cons c l =>
    have A := Lib.hid (take_yes b c l w h)
    have hsp : hexP (c :: l) = if inB hexDig (lowHex c) then some ((Lib.indexByte hexDig (lowHex c)).toNat, l) else none := rfl
    rw [hsp]
    have X := idx_any hexS (lowHex c)
    have hl : hexS.data.toList = hexDig := rfl
    rw [hl] at X
    have hng := idx_neg hexDig (lowHex c)
    unfold inB
    by_cases hc : 65 ≤ c.toNat ∧ c.toNat ≤ 70
    · have e1 : ((lowHex c).toNat : Int) = (c.toNat : Int) + 32 := by
        unfold lowHex; rw [if_pos hc]
        have : (c + 32).toNat = c.toNat + 32 := by rw [UInt8.toNat_add]; simp; omega
        omega
      rw [e1] at X
      generalize Lib.indexByte hexDig (lowHex c) = r at *
      have hi1 : (65 : Int) ≤ (c.toNat : Int) := by omega
      have hi2 : (c.toNat : Int) ≤ 70 := by omega
      generalize c.toNat = n at *
      unfold hexS at X
      have XX := Lib.hid X
      clear X h e1 hl hsp hc
      rcases hng with rfl | hr
      · rw [if_neg (by decide)]
        unfold PostI
        go_enter Try.func89, Try.ntmps89
        go_wp2_with (first
          | (go_at_call 83; (with_reducible refine (A.out).mono ?_); rintro e w1 ⟨rfl, s1⟩)
          | (go_at_call 85; (with_reducible refine (XX.out _).mono ?_); rintro e w' ⟨rfl, rfl⟩)
          | (go_at_call 55; (with_reducible refine (RY.out _).mono ?_); rintro e w' ⟨rfl, rfl⟩))
        exact ⟨rfl, rfl, s1.grown⟩
      · rw [if_pos (by simpa using hr)]
        unfold PostI
        have d0 : decide (r < 0) = false := by simp; omega
        have hv : Hid (((r.toNat : Nat) : Int) = r) := by unfold Hid; omega
        go_enter Try.func89, Try.ntmps89
        go_wp2_with (first
          | (go_at_call 83; (with_reducible refine (A.out).mono ?_); rintro e w1 ⟨rfl, s1⟩)
          | (go_at_call 85; (with_reducible refine (XX.out _).mono ?_); rintro e w' ⟨rfl, rfl⟩)
          | (go_at_call 55; (with_reducible refine (RN.out _).mono ?_); rintro e w' ⟨rfl, rfl⟩))
        go_ret
        exact ⟨ret_int (by rw [hv.out]), s1⟩
    · have e1 : lowHex c = c := by unfold lowHex; rw [if_neg hc]
      rw [e1] at X hng ⊢
      generalize Lib.indexByte hexDig c = r at *
      have hcc : (c.toNat : Int) < 65 ∨ (65 : Int) ≤ (c.toNat : Int) ∧ (70 : Int) < (c.toNat : Int) := by omega
      generalize c.toNat = n at *
      unfold hexS at X
      have XX := Lib.hid X
      clear X h e1 hl hsp hc
      rcases hcc with hcc | ⟨hcc1, hcc⟩
      all_goals
        rcases hng with rfl | hr
        · rw [if_neg (by decide)]
          unfold PostI
          go_enter Try.func89, Try.ntmps89
          go_wp2_with (first
            | (go_at_call 83; (with_reducible refine (A.out).mono ?_); rintro e w1 ⟨rfl, s1⟩)
            | (go_at_call 85; (with_reducible refine (XX.out _).mono ?_); rintro e w' ⟨rfl, rfl⟩)
            | (go_at_call 55; (with_reducible refine (RY.out _).mono ?_); rintro e w' ⟨rfl, rfl⟩))
          exact ⟨rfl, rfl, s1.grown⟩
        · rw [if_pos (by simpa using hr)]
          unfold PostI
          have d0 : decide (r < 0) = false := by simp; omega
          have hv : Hid (((r.toNat : Nat) : Int) = r) := by unfold Hid; omega
          go_enter Try.func89, Try.ntmps89
          go_wp2_with (first
            | (go_at_call 83; (with_reducible refine (A.out).mono ?_); rintro e w1 ⟨rfl, s1⟩)
            | (go_at_call 85; (with_reducible refine (XX.out _).mono ?_); rintro e w' ⟨rfl, rfl⟩)
            | (go_at_call 55; (with_reducible refine (RN.out _).mono ?_); rintro e w' ⟨rfl, rfl⟩))
          go_ret
          exact ⟨ret_int (by rw [hv.out]), s1⟩
theorem hexP_lt {l l1 : Bs} {n : Nat} (h : hexP l = some (n, l1)) : n < 16 := by
  cases l with
  | nil => cases h
  | cons c l =>
    have hsp : hexP (c :: l) = if inB hexDig (lowHex c) then some ((Lib.indexByte hexDig (lowHex c)).toNat, l) else none := rfl
    rw [hsp] at h
    split at h
    · simp only [Option.some.injEq, Prod.mk.injEq] at h
      have := idx_lt hexDig (lowHex c)
      have h16 : (hexDig.length : Int) = 16 := rfl
      omega
    · cases h
def letS : ByteArray := ⟨#[92, 46, 91, 93, 40, 41, 124, 42, 43, 63, 123, 125, 94, 45]⟩
set_option maxHeartbeats 1000000 in
theorem esc_any (b : Nat) (l : Bs) (w : World) (h : St w b l) : Calls Try.prog 84 #[.pointer (some ⟨b, 0, none⟩)] w (PostI b w (escP l)) := by
  have RN := Lib.hid refuse_no
  have RY := Lib.hid refuse_yes
  cases l with
  | nil =>
    have T0 : Hid (Calls Try.prog 61 #[.pointer (some ⟨b, 0, none⟩), .int .u8 120] w fun e w' => e = .returned (.bool false) ∧ Step b w w' []) := takes_no b 120 [] w h rfl
    have A : Hid (∀ w1, St w1 b [] → Calls Try.prog 83 #[.pointer (some ⟨b, 0, none⟩)] w1 fun e w' => e = pan ∧ w1.grownBy w' (some b)) := fun w1 q => take_no b w1 q
    show Calls _ _ _ _ (PostI b w none)
    unfold PostI
    clear h
    go_enter Try.func84, Try.ntmps84
    go_wp2_with (first
      | (go_at_call 61; (with_reducible refine (T0.out).mono ?_); rintro e w1 ⟨rfl, s1⟩; have t1 := s1.st)
      | (go_at_call 83; (with_reducible refine (A.out _ t1).mono ?_); rintro e w2 ⟨rfl, s2⟩))
    exact ⟨rfl, rfl, grown_trans s1.grown s2⟩
  | cons c l =>
    by_cases hc : c = 120
    · subst hc
      have T0 : Hid (Calls Try.prog 61 #[.pointer (some ⟨b, 0, none⟩), .int .u8 120] w fun e w' => e = .returned (.bool true) ∧ Step b w w' l) := takes_yes b 120 l w h
      have H1 := fun w1 (q : St w1 b l) => hex_any b l w1 q
      have hsp : escP (120 :: l) = match hexP l with | none => none | some (u, l1) => match hexP l1 with | none => none | some (v, l2) => some (16 * u + v, l2) := rfl
      rw [hsp]
      clear h hsp
      cases h1 : hexP l with
      | none =>
        rw [h1] at H1
        unfold PostI at H1 ⊢
        have HH := Lib.hid H1
        clear H1 h1
        go_enter Try.func84, Try.ntmps84
        go_wp2_with (first
          | (go_at_call 61; (with_reducible refine (T0.out).mono ?_); rintro e w1 ⟨rfl, s1⟩; have t1 := s1.st)
          | (go_at_call 89; (with_reducible refine (HH.out _ t1).mono ?_); rintro e w2 ⟨rfl, s2⟩))
        exact ⟨rfl, rfl, grown_trans s1.grown s2⟩
      | some p =>
        obtain ⟨u, l1⟩ := p
        have hu := hexP_lt h1
        rw [h1] at H1
        unfold PostI at H1
        have HH := Lib.hid H1
        have H2 := fun w1 (q : St w1 b l1) => hex_any b l1 w1 q
        clear H1 h1
        dsimp only
        cases h2 : hexP l1 with
        | none =>
          rw [h2] at H2
          unfold PostI at H2 ⊢
          have HK := Lib.hid H2
          clear H2 h2
          go_enter Try.func84, Try.ntmps84
          go_wp2_with (first
            | (go_at_call 61; (with_reducible refine (T0.out).mono ?_); rintro e w1 ⟨rfl, s1⟩; have t1 := s1.st)
            | (go_at_call 89; (with_reducible refine (HH.out _ t1).mono ?_); rintro e w2 ⟨rfl, s2⟩; have t2 := s2.st)
            | (go_at_call 89; (with_reducible refine (HK.out _ t2).mono ?_); rintro e w3 ⟨rfl, s3⟩))
          exact ⟨rfl, rfl, grown_trans (s1.trans s2).grown s3⟩
        | some p2 =>
          obtain ⟨v, l2⟩ := p2
          have hv := hexP_lt h2
          rw [h2] at H2
          unfold PostI at H2 ⊢
          have HK := Lib.hid H2
          have hui : (u : Int) < 16 := by omega
          have hu0 : (0 : Int) ≤ (u : Int) := by omega
          have hvi : (v : Int) < 16 := by omega
          have hv0 : (0 : Int) ≤ (v : Int) := by omega
          have hval : Hid (16 * (u : Int) + (v : Int) = ((16 * u + v : Nat) : Int)) := by unfold Hid; omega
          clear H2 h2 hu hv
          go_enter Try.func84, Try.ntmps84
          go_wp2_with (first
            | (go_at_call 61; (with_reducible refine (T0.out).mono ?_); rintro e w1 ⟨rfl, s1⟩; have t1 := s1.st)
            | (go_at_call 89; (with_reducible refine (HH.out _ t1).mono ?_); rintro e w2 ⟨rfl, s2⟩; have t2 := s2.st)
            | (go_at_call 89; (with_reducible refine (HK.out _ t2).mono ?_); rintro e w3 ⟨rfl, s3⟩))
          go_ret
          exact ⟨ret_int (by rw [← hval.out]), (s1.trans s2).trans s3⟩
    · have hn : isNext 120 (c :: l) = false := by simp [isNext, hc]
      have T0 : Hid (Calls Try.prog 61 #[.pointer (some ⟨b, 0, none⟩), .int .u8 120] w fun e w' => e = .returned (.bool false) ∧ Step b w w' (c :: l)) := takes_no b 120 (c :: l) w h hn
      have A : Hid (∀ w1, St w1 b (c :: l) → Calls Try.prog 83 #[.pointer (some ⟨b, 0, none⟩)] w1 fun e w' => e = .returned (.int .u8 (c.toNat : Nat)) ∧ Step b w1 w' l) := fun w1 q => take_yes b c l w1 q
      have hsp : escP (c :: l) = if inB letBar c then some (c.toNat, l) else none := by
        show (if c == 120 then _ else _) = _
        rw [if_neg (by simpa using hc)]
      rw [hsp]
      have X := idx_any letS c
      have hl : letS.data.toList = letBar := rfl
      rw [hl] at X
      have hng := idx_neg letBar c
      unfold inB
      generalize Lib.indexByte letBar c = r at *
      generalize hcn : c.toNat = n at *
      have hn0 : (0 : Int) ≤ (n : Int) := by omega
      have hn1 : (n : Int) ≤ 255 := by have := c.toNat_lt; omega
      unfold letS at X
      have XX := Lib.hid X
      clear X h hl hsp hc hn hcn
      rcases hng with rfl | hr
      · rw [if_neg (by decide)]
        unfold PostI
        go_enter Try.func84, Try.ntmps84
        go_wp2_with (first
          | (go_at_call 61; (with_reducible refine (T0.out).mono ?_); rintro e w1 ⟨rfl, s1⟩; have t1 := s1.st)
          | (go_at_call 83; (with_reducible refine (A.out _ t1).mono ?_); rintro e w2 ⟨rfl, s2⟩)
          | (go_at_call 85; (with_reducible refine (XX.out _).mono ?_); rintro e w' ⟨rfl, rfl⟩)
          | (go_at_call 55; (with_reducible refine (RY.out _).mono ?_); rintro e w' ⟨rfl, rfl⟩))
        exact ⟨rfl, rfl, (s1.trans s2).grown⟩
      · rw [if_pos (by simpa using hr)]
        unfold PostI
        have d0 : decide (r < 0) = false := by simp; omega
        go_enter Try.func84, Try.ntmps84
        go_wp2_with (first
          | (go_at_call 61; (with_reducible refine (T0.out).mono ?_); rintro e w1 ⟨rfl, s1⟩; have t1 := s1.st)
          | (go_at_call 83; (with_reducible refine (A.out _ t1).mono ?_); rintro e w2 ⟨rfl, s2⟩)
          | (go_at_call 85; (with_reducible refine (XX.out _).mono ?_); rintro e w' ⟨rfl, rfl⟩)
          | (go_at_call 55; (with_reducible refine (RN.out _).mono ?_); rintro e w' ⟨rfl, rfl⟩))
        go_ret
        exact ⟨rfl, s1.trans s2⟩
/-- a byte that is none of some, those a constant text -/
theorem but_any (bar : ByteArray) (b : Nat) (l : Bs) (w : World) (h : St w b l) : Calls Try.prog 77 #[.pointer (some ⟨b, 0, none⟩), .string bar] w (PostI b w (byteP bar.data.toList l)) := by
  have RN := Lib.hid refuse_no
  have RY := Lib.hid refuse_yes
  cases l with
  | nil =>
    have A := Lib.hid (take_no b w h)
    show Calls _ _ _ _ (PostI b w none)
    unfold PostI
    clear h
    go_enter Try.func77, Try.ntmps77
    go_wp2_with (go_at_call 83; (with_reducible refine (A.out).mono ?_); rintro e w2 ⟨rfl, s2⟩)
    exact ⟨rfl, rfl, s2⟩
  | cons c l =>
    have A := Lib.hid (take_yes b c l w h)
    by_cases hc : c = 92
    · subst hc
      have E := fun w1 (q : St w1 b l) => esc_any b l w1 q
      have hsp : byteP bar.data.toList (92 :: l) = escP l := rfl
      rw [hsp]
      clear h hsp
      cases he : escP l with
      | none =>
        rw [he] at E
        unfold PostI at E ⊢
        have EE := Lib.hid E
        clear E he
        go_enter Try.func77, Try.ntmps77
        go_wp2_with (first
          | (go_at_call 83; (with_reducible refine (A.out).mono ?_); rintro e w1 ⟨rfl, s1⟩; have t1 := s1.st)
          | (go_at_call 84; (with_reducible refine (EE.out _ t1).mono ?_); rintro e w2 ⟨rfl, s2⟩))
        exact ⟨rfl, rfl, grown_trans s1.grown s2⟩
      | some p =>
        obtain ⟨v, l1⟩ := p
        rw [he] at E
        unfold PostI at E ⊢
        have EE := Lib.hid E
        clear E he
        go_enter Try.func77, Try.ntmps77
        go_wp2_with (first
          | (go_at_call 83; (with_reducible refine (A.out).mono ?_); rintro e w1 ⟨rfl, s1⟩; have t1 := s1.st)
          | (go_at_call 84; (with_reducible refine (EE.out _ t1).mono ?_); rintro e w2 ⟨rfl, s2⟩))
        go_ret
        exact ⟨rfl, s1.trans s2⟩
    · have hsp : byteP bar.data.toList (c :: l) = if inB bar.data.toList c then none else some (c.toNat, l) := by
        show (if c == 92 then _ else _) = _
        rw [if_neg (by simpa using hc)]
      rw [hsp]
      have X := idx_any bar c
      have hng := idx_neg bar.data.toList c
      have d9 : (((c.toNat : Nat) : Int) == 92) = false := by
        simp
        intro q
        exact hc (UInt8.toNat_inj.1 (by have h9 : (92 : UInt8).toNat = 92 := rfl; omega))
      unfold inB
      generalize Lib.indexByte bar.data.toList c = r at *
      generalize hcn : c.toNat = n at *
      have hn0 : (0 : Int) ≤ (n : Int) := by omega
      have hn1 : (n : Int) ≤ 255 := by have := c.toNat_lt; omega
      have XX := Lib.hid X
      clear X h hsp hc hcn
      rcases hng with rfl | hr
      · rw [if_neg (by decide)]
        unfold PostI
        go_enter Try.func77, Try.ntmps77
        go_wp2_with (first
          | (go_at_call 83; (with_reducible refine (A.out).mono ?_); rintro e w1 ⟨rfl, s1⟩)
          | (go_at_call 85; (with_reducible refine (XX.out _).mono ?_); rintro e w' ⟨rfl, rfl⟩)
          | (go_at_call 55; (with_reducible refine (RN.out _).mono ?_); rintro e w' ⟨rfl, rfl⟩))
        go_ret
        exact ⟨rfl, s1⟩
      · rw [if_pos (by simpa using hr)]
        unfold PostI
        go_enter Try.func77, Try.ntmps77
        go_wp2_with (first
          | (go_at_call 83; (with_reducible refine (A.out).mono ?_); rintro e w1 ⟨rfl, s1⟩)
          | (go_at_call 85; (with_reducible refine (XX.out _).mono ?_); rintro e w' ⟨rfl, rfl⟩)
          | (go_at_call 55; (with_reducible refine (RY.out _).mono ?_); rintro e w' ⟨rfl, rfl⟩))
        exact ⟨rfl, rfl, s1.grown⟩
end Go.Proofs.Ytdmajbdgjjmlkaa
