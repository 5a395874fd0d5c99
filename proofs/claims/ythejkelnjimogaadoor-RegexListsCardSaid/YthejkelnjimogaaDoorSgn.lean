/- How often, as it is told: what the call returns; nothing that was there turns. Conditions: the numbers are those that may be. -/
import Derived.Test.YthejkelnjimogaaDoorByp
import Derived.Test.YthejkelnjimogaaDoorShlf

namespace Go.Proofs.YthejkelnjimogaaDoor
open Go.RowKit
set_option linter.unusedVariables false

def decS (m : Nat) : Bs := Lib.decDigits m
theorem decS_len (m : Nat) (h : m ≤ 15) : (decS m).length ≤ 2 := by
  have : m = 0 ∨ m = 1 ∨ m = 2 ∨ m = 3 ∨ m = 4 ∨ m = 5 ∨ m = 6 ∨ m = 7 ∨ m = 8 ∨ m = 9 ∨ m = 10 ∨ m = 11 ∨ m = 12 ∨ m = 13 ∨ m = 14 ∨ m = 15 := by omega
  rcases this with rfl | rfl | rfl | rfl | rfl | rfl | rfl | rfl | rfl | rfl | rfl | rfl | rfl | rfl | rfl | rfl <;> decide +kernel
def signS (mn mx : Int) : Bs :=
  if mn = 0 ∧ mx = -1 then [42] else if mn = 1 ∧ mx = -1 then [43] else if mn = 0 ∧ mx = 1 then [63]
  else if mx = mn then [123] ++ decS mn.toNat ++ [125] else if mx = -1 then [123] ++ decS mn.toNat ++ [44, 125] else [123] ++ decS mn.toNat ++ [44] ++ decS mx.toNat ++ [125]
theorem areT_iff (mn mx : Int) : areT mn mx = true ↔ (0 ≤ mn ∧ mn ≤ 15 ∧ (mx = -1 ∨ (mn ≤ mx ∧ mx ≤ 15))) := by simp [areT, and_assoc]
set_option maxRecDepth 20000 in
set_option maxHeartbeats 4000000 in
theorem sign_any (mn mx : Int) (w : World) (h : areT mn mx = true) : Calls Tryd.prog 33 #[.int .i64 mn, .int .i64 mx] w fun e w' => e = .returned (.string (str (signS mn mx))) ∧ w = w' := by
  rw [areT_iff] at h
  obtain ⟨ha, hb, hc⟩ := h
  obtain ⟨m, rfl⟩ : ∃ m : Nat, mn = (m : Int) := ⟨mn.toNat, by omega⟩
  have KM := Lib.hid (fun w => Tryd.strconv_Itoa_small m (by omega) w)
  have lm := decS_len m (by omega)
  have sm : (str (decS m)).size ≤ 2 := by rw [str_size]; exact lm
  have KM2 : Hid (∀ w, Calls Tryd.prog 49 #[.int .i64 (m : Nat)] w fun e w' => e = .returned (.string (str (decS m))) ∧ w' = w) := KM.out
  clear KM
  have s1 : Hid (str ([123] ++ decS m ++ [125]) = ⟨#[123]⟩ ++ str (decS m) ++ ⟨#[125]⟩) := by rw [str_add, str_add]; rfl
  have s2 : Hid (str ([123] ++ decS m ++ [44, 125]) = ⟨#[123]⟩ ++ str (decS m) ++ ⟨#[44, 125]⟩) := by rw [str_add, str_add]; rfl
  have z0 : ¬ 9223372036854775807 < 1 + (str (decS m)).size := by omega
  have z1 : ¬ 9223372036854775807 < 1 + (str (decS m)).size + 1 := by omega
  have z2 : ¬ 9223372036854775807 < 1 + (str (decS m)).size + 2 := by omega
  have c42 : Hid (str [42] = ⟨#[42]⟩) := rfl
  have c43 : Hid (str [43] = ⟨#[43]⟩) := rfl
  have c63 : Hid (str [63] = ⟨#[63]⟩) := rfl
  unfold signS
  rw [Int.toNat_natCast]
  rcases hc with hc | hc
  · subst hc
    by_cases h0 : m = 0
    · subst h0
      go_enter Tryd.func33, Tryd.ntmps33
      go_wp2
      go_ret
      exact ⟨rfl, rfl⟩
    · have e0 : ((m : Int) == 0) = false := by simp; omega
      have g0 : ¬ (m : Int) = 0 := by omega
      by_cases h1 : m = 1
      · subst h1
        go_enter Tryd.func33, Tryd.ntmps33
        go_wp2
        go_ret
        exact ⟨rfl, rfl⟩
      · have e1 : ((m : Int) == 1) = false := by simp; omega
        have g1 : ¬ (m : Int) = 1 := by omega
        have e2 : ((-1 : Int) == (m : Int)) = false := by
          cases hh : ((-1 : Int) == (m : Int)) with
          | false => rfl
          | true => have := LawfulBEq.eq_of_beq hh; omega
        rw [if_neg (by omega), if_neg (by omega), if_neg (by omega), if_neg (by omega), if_pos rfl, s2.out]
        generalize str (decS m) = x at *
        clear lm h0 h1
        go_enter Tryd.func33, Tryd.ntmps33
        go_wp2_with (go_at_call 49; (with_reducible refine (KM2.out _).mono ?_); rintro e w' ⟨rfl, rfl⟩)
        go_ret
        exact ⟨rfl, rfl⟩
  · obtain ⟨n, rfl⟩ : ∃ n : Nat, mx = (n : Int) := ⟨mx.toNat, by omega⟩
    have KN := Lib.hid (fun w => Tryd.strconv_Itoa_small n (by omega) w)
    have ln := decS_len n (by omega)
    have sn : (str (decS n)).size ≤ 2 := by rw [str_size]; exact ln
    have KN2 : Hid (∀ w, Calls Tryd.prog 49 #[.int .i64 (n : Nat)] w fun e w' => e = .returned (.string (str (decS n))) ∧ w' = w) := KN.out
    clear KN
    have en : ((n : Int) == -1) = false := by simp
    have gn : ¬ (n : Int) = -1 := by omega
    rw [Int.toNat_natCast, if_neg (by omega), if_neg (by omega)]
    by_cases h2 : m = 0 ∧ n = 1
    · obtain ⟨rfl, rfl⟩ := h2
      go_enter Tryd.func33, Tryd.ntmps33
      go_wp2
      go_ret
      exact ⟨rfl, rfl⟩
    · rw [if_neg (by omega)]
      by_cases h3 : n = m
      · subst h3
        rw [if_pos rfl, s1.out]
        generalize str (decS n) = x at *
        have hx : (((n : Int) == 0) = true ∧ ((n : Int) == 1) = false) ∨ (((n : Int) == 0) = false ∧ ((n : Int) == 1) = true) ∨ (((n : Int) == 0) = false ∧ ((n : Int) == 1) = false) := by
          by_cases hn : n = 0
          · left; subst hn; exact ⟨rfl, rfl⟩
          · by_cases hn1 : n = 1
            · right; left; subst hn1; exact ⟨rfl, rfl⟩
            · right; right; simp; omega
        clear lm ln h2 ha hb hc
        rcases hx with ⟨e0, e1⟩ | ⟨e0, e1⟩ | ⟨e0, e1⟩
        · go_enter Tryd.func33, Tryd.ntmps33
          go_wp2_with (go_at_call 49; (with_reducible refine (KM2.out _).mono ?_); rintro e w' ⟨rfl, rfl⟩)
          go_ret
          exact ⟨rfl, rfl⟩
        · go_enter Tryd.func33, Tryd.ntmps33
          go_wp2_with (go_at_call 49; (with_reducible refine (KM2.out _).mono ?_); rintro e w' ⟨rfl, rfl⟩)
          go_ret
          exact ⟨rfl, rfl⟩
        · go_enter Tryd.func33, Tryd.ntmps33
          go_wp2_with (go_at_call 49; (with_reducible refine (KM2.out _).mono ?_); rintro e w' ⟨rfl, rfl⟩)
          go_ret
          exact ⟨rfl, rfl⟩
      · have s3 : Hid (str ([123] ++ decS m ++ [44] ++ decS n ++ [125]) = ⟨#[123]⟩ ++ str (decS m) ++ ⟨#[44]⟩ ++ str (decS n) ++ ⟨#[125]⟩) := by rw [str_add, str_add, str_add, str_add]; rfl
        rw [if_neg (by omega), if_neg (by omega), s3.out]
        have e3 : ((n : Int) == (m : Int)) = false := by
          cases hh : ((n : Int) == (m : Int)) with
          | false => rfl
          | true => have := LawfulBEq.eq_of_beq hh; omega
        have z3 : ¬ 9223372036854775807 < 1 + (str (decS m)).size + 1 + (str (decS n)).size := by omega
        have z4 : ¬ 9223372036854775807 < 1 + (str (decS m)).size + 1 + (str (decS n)).size + 1 := by omega
        have hx : (((m : Int) == 0) = true ∧ ((m : Int) == 1) = false ∧ ((n : Int) == 1) = false) ∨ (((m : Int) == 0) = false ∧ ((m : Int) == 1) = true) ∨ (((m : Int) == 0) = false ∧ ((m : Int) == 1) = false) := by
          by_cases hn : m = 0
          · left; subst hn; refine ⟨rfl, rfl, ?_⟩; simp; omega
          · by_cases hn1 : m = 1
            · right; left; subst hn1; exact ⟨rfl, rfl⟩
            · right; right; simp; omega
        generalize str (decS n) = x at *
        generalize str (decS m) = y at *
        clear lm ln s1 s2 s3 h2 h3 ha hb hc
        rcases hx with ⟨e0, e1, e2⟩ | ⟨e0, e1⟩ | ⟨e0, e1⟩
        · go_enter Tryd.func33, Tryd.ntmps33
          go_wp2_with (first
            | (go_at_call 49; (with_reducible refine (KM2.out _).mono ?_); rintro e w' ⟨rfl, rfl⟩)
            | (go_at_call 49; (with_reducible refine (KN2.out _).mono ?_); rintro e w' ⟨rfl, rfl⟩))
          go_ret
          exact ⟨rfl, rfl⟩
        · go_enter Tryd.func33, Tryd.ntmps33
          go_wp2_with (first
            | (go_at_call 49; (with_reducible refine (KM2.out _).mono ?_); rintro e w' ⟨rfl, rfl⟩)
            | (go_at_call 49; (with_reducible refine (KN2.out _).mono ?_); rintro e w' ⟨rfl, rfl⟩))
          go_ret
          exact ⟨rfl, rfl⟩
        · go_enter Tryd.func33, Tryd.ntmps33
          go_wp2_with (first
            | (go_at_call 49; (with_reducible refine (KM2.out _).mono ?_); rintro e w' ⟨rfl, rfl⟩)
            | (go_at_call 49; (with_reducible refine (KN2.out _).mono ?_); rintro e w' ⟨rfl, rfl⟩))
          go_ret
          exact ⟨rfl, rfl⟩
theorem signS_len (mn mx : Int) (h : areT mn mx = true) : (signS mn mx).length ≤ 8 := by
  rw [areT_iff] at h
  have l1 := decS_len mn.toNat (by omega)
  have l2 : mx = -1 ∨ (decS mx.toNat).length ≤ 2 := by
    rcases h.2.2 with h | h
    · exact .inl h
    · exact .inr (decS_len _ (by omega))
  unfold signS
  split
  · simp
  · split
    · simp
    · split
      · simp
      · split
        · simp; omega
        · split
          · simp; omega
          · rename_i hx
            have := l2.resolve_left hx
            simp; omega
end Go.Proofs.YthejkelnjimogaaDoor
