/- The code's reader, call by call, in every state: what each call answers, where the reader then stands, its fault; of all else that was there nothing turns. Conditions: it stands within its bytes, which are at most 2^48. -/
import Derived.Test.YtnecbbflcpngcaaCRdWa
import Derived.Test.YtnecbbflcpngcaaCRdWc
namespace Go.Proofs.Ytnecbbflcpngcaa.Cd
open Go.RowKit
set_option maxRecDepth 20000
set_option linter.unusedVariables false

/-- what a number that is read is; where the reader then stands; its fault -/
def numR (s : ByteArray) (p : Nat) (e n : Int) : Int × Nat × Int :=
  if e ≠ 0 then (0, p, e) else if ¬ (1 ≤ n ∧ n ≤ 8) then (0, p, 13) else if ((s.size - p : Nat) : Int) < n then (0, p, 10)
  else (numS ((s.data.toList.drop p).take n.toNat), p + n.toNat, 0)
def bytesR (s : ByteArray) (p : Nat) (e n : Int) : ByteArray × Nat × Int :=
  if e ≠ 0 then (⟨#[]⟩, p, e) else if n < 0 then (⟨#[]⟩, p, 13) else if ((s.size - p : Nat) : Int) < n then (⟨#[]⟩, p, 10)
  else (s.extract p (p + n.toNat), p + n.toNat, 0)
theorem ret_i {a b : Int} (h : a = b) : Ending.returned (.int .i64 a) = .returned (.int .i64 b) := by rw [h]

def Reads (w : World) (b : Nat) (s : ByteArray) (v : Value) (p : Nat) (e : Int) (x : Ending) (w' : World) : Prop := x = .returned v ∧ Rdr w' b s p e ∧ w.grownBy w' (some b)

theorem num_any (w : World) (b : Nat) (s : ByteArray) (p : Nat) (e n : Int) (h : Rdr w b s p e) (hp : p ≤ s.size) (hs : s.size ≤ 281474976710656) :
    Calls Try.prog 48 #[.pointer (some ⟨b, 0, none⟩), .int .i64 n] w (Reads w b s (.int .i64 (numR s p e n).1) (numR s p e n).2.1 (numR s p e n).2.2) := by
  by_cases he : e ≠ 0
  · have hv : numR s p e n = (0, p, e) := if_pos he
    rw [hv]
    have HE := Lib.hid (bne_iff_ne.2 he)
    clear hv he
    go_enter Try.func48, Try.ntmps48
    go_wp2_with (first | (go_at_call 79; refine (isWidth_any _ _).mono ?_; rintro e w' ⟨rfl, rfl⟩) | (go_at_call 81; refine (readn_was _ _ _ _ _ _ _ _ _ HE.out h hp hs).mono ?_; rintro e w1 ⟨rfl, hr, hg⟩))
    go_ret
    exact ⟨rfl, hr, hg⟩
  · have he' : e = 0 := by omega
    subst he'
    by_cases hw : 1 ≤ n ∧ n ≤ 8
    · have hw2 := isW_yes hw.1 hw.2
      by_cases hm : ((s.size - p : Nat) : Int) < n
      · have hv : numR s p 0 n = (0, p, 10) := by unfold numR; rw [if_neg he, if_neg (by omega), if_pos hm]
        rw [hv]
        clear hv
        go_enter Try.func48, Try.ntmps48
        go_wp2_with (first | (go_at_call 79; refine (isWidth_any _ _).mono ?_; rintro e w' ⟨rfl, rfl⟩) | (go_at_call 81; refine (readn_end _ _ _ _ _ _ hm h hp hs).mono ?_; rintro e w1 ⟨rfl, hr, hg⟩))
        go_ret
        exact ⟨rfl, hr, hg⟩
      · have hv : numR s p 0 n = (numS ((s.data.toList.drop p).take n.toNat), p + n.toNat, 0) := by unfold numR; rw [if_neg he, if_neg (by omega), if_neg hm]
        rw [hv]
        clear hv
        obtain ⟨m, rfl⟩ := Int.eq_ofNat_of_zero_le (show 0 ≤ n by omega)
        rw [Int.toNat_natCast]
        go_enter Try.func48, Try.ntmps48
        go_wp2_with (first | (go_at_call 79; refine (isWidth_any _ _).mono ?_; rintro e w' ⟨rfl, rfl⟩) | (go_at_call 81; refine (readn_ok _ _ _ _ _ (by omega) h hp hs).mono ?_; rintro e w1 ⟨rfl, hr, hg⟩))
        go_ret
        exact ⟨rfl, hr, hg⟩
    · have hw2 := isW_no hw
      have hv : numR s p 0 n = (0, p, 13) := by unfold numR; rw [if_neg he, if_pos hw]
      rw [hv]
      clear hv
      go_enter Try.func48, Try.ntmps48
      go_wp2_with (first | (go_at_call 79; refine (isWidth_any _ _).mono ?_; rintro e w' ⟨rfl, rfl⟩) | (go_at_call 81; refine (readn_wide _ _ _ _ _ _ _ h hp hs).mono ?_; rintro e w1 ⟨rfl, hr, hg⟩))
      go_ret
      exact ⟨rfl, hr, hg⟩

theorem bytes_any (w : World) (b : Nat) (s : ByteArray) (p : Nat) (e n : Int) (h : Rdr w b s p e) (hp : p ≤ s.size) (hs : s.size ≤ 281474976710656) :
    Calls Try.prog 47 #[.pointer (some ⟨b, 0, none⟩), .int .i64 n] w (Reads w b s (.string (bytesR s p e n).1) (bytesR s p e n).2.1 (bytesR s p e n).2.2) := by
  by_cases he : e ≠ 0
  · have hv : bytesR s p e n = (⟨#[]⟩, p, e) := if_pos he
    rw [hv]
    have HE := Lib.hid (bne_iff_ne.2 he)
    clear hv he
    go_enter Try.func47, Try.ntmps47
    go_wp2_with (go_at_call 80; refine (reads_was _ _ _ _ _ _ _ _ _ HE.out h hp hs).mono ?_; rintro e w1 ⟨rfl, hr, hg⟩)
    go_ret
    exact ⟨rfl, hr, hg⟩
  · have he' : e = 0 := by omega
    subst he'
    by_cases hw : n < 0
    · have hd : decide (n < 0) = true := decide_eq_true hw
      have hv : bytesR s p 0 n = (⟨#[]⟩, p, 13) := by unfold bytesR; rw [if_neg he, if_pos hw]
      rw [hv]
      clear hv
      go_enter Try.func47, Try.ntmps47
      go_wp2_with (go_at_call 80; refine (reads_wide _ _ _ _ _ _ _ h hp hs).mono ?_; rintro e w1 ⟨rfl, hr, hg⟩)
      go_ret
      exact ⟨rfl, hr, hg⟩
    · have hd : decide (n < 0) = false := decide_eq_false hw
      by_cases hm : ((s.size - p : Nat) : Int) < n
      · have hv : bytesR s p 0 n = (⟨#[]⟩, p, 10) := by unfold bytesR; rw [if_neg he, if_neg hw, if_pos hm]
        rw [hv]
        clear hv
        go_enter Try.func47, Try.ntmps47
        go_wp2_with (go_at_call 80; refine (reads_end _ _ _ _ _ _ hm h hp hs).mono ?_; rintro e w1 ⟨rfl, hr, hg⟩)
        go_ret
        exact ⟨rfl, hr, hg⟩
      · have hv : bytesR s p 0 n = (s.extract p (p + n.toNat), p + n.toNat, 0) := by unfold bytesR; rw [if_neg he, if_neg hw, if_neg hm]
        rw [hv]
        clear hv
        obtain ⟨m, rfl⟩ := Int.eq_ofNat_of_zero_le (show 0 ≤ n by omega)
        rw [Int.toNat_natCast]
        go_enter Try.func47, Try.ntmps47
        go_wp2_with (go_at_call 80; refine (bytes_ok _ _ _ _ _ (by omega) h hp hs).mono ?_; rintro e w1 ⟨rfl, hr, hg⟩)
        go_ret
        exact ⟨rfl, hr, hg⟩

end Go.Proofs.Ytnecbbflcpngcaa.Cd
