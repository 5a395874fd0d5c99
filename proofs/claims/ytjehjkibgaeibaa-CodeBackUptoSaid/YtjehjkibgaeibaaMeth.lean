/- The code's reader, call by call, in every state: what each call answers, where the reader then stands, its fault; of all else that was there nothing turns. Conditions: it stands within its bytes, which are at most 2^48. -/
import Derived.Test.YtjehjkibgaeibaaRdWa
import Derived.Test.YtjehjkibgaeibaaRdWb
import Derived.Test.YtjehjkibgaeibaaRdWc
namespace Go.Proofs.Ytjehjkibgaeibaa
open Go.RowKit
set_option linter.unusedVariables false

/-- what a number that is read is; where the reader then stands; its fault -/
def numR (s : ByteArray) (p : Nat) (e n : Int) : Int × Nat × Int :=
  if e ≠ 0 then (0, p, e) else if ¬ (1 ≤ n ∧ n ≤ 8) then (0, p, 13) else if ((s.size - p : Nat) : Int) < n then (0, p, 10)
  else (numS ((s.data.toList.drop p).take n.toNat), p + n.toNat, 0)
def bytesR (s : ByteArray) (p : Nat) (e n : Int) : ByteArray × Nat × Int :=
  if e ≠ 0 then (⟨#[]⟩, p, e) else if n < 0 then (⟨#[]⟩, p, 13) else if ((s.size - p : Nat) : Int) < n then (⟨#[]⟩, p, 10)
  else (s.extract p (p + n.toNat), p + n.toNat, 0)
/-- what a text's head says -/
def headN (s : ByteArray) (p : Nat) : Nat := be ((s.data.toList.drop p).take 2)
def textR (s : ByteArray) (p : Nat) (e n : Int) : ByteArray × Nat × Int :=
  if e ≠ 0 then (⟨#[]⟩, p, e) else if n < 0 then (⟨#[]⟩, p, 13) else if s.size - p < 2 then (⟨#[]⟩, p, 10)
  else if n < (headN s p : Int) then (⟨#[]⟩, p, 11) else if s.size - p - 2 < headN s p then (⟨#[]⟩, p, 10)
  else (s.extract (p + 2) (p + (2 + headN s p)), p + (2 + headN s p), 0)

theorem headN_lt (s : ByteArray) (p : Nat) : headN s p < 65536 := by
  unfold headN
  have h := be_lt ((s.data.toList.drop p).take 2)
  have h2 : 256 ^ ((s.data.toList.drop p).take 2).length ≤ 256 ^ 2 := Nat.pow_le_pow_right (by decide) (by rw [List.length_take]; omega)
  omega
theorem headN_num (s : ByteArray) (p : Nat) : numS ((s.data.toList.drop p).take 2) = (headN s p : Int) := by
  have := headN_lt s p
  unfold numS
  show wrap64 (headN s p : Int) = _
  unfold wrap64; omega

theorem ret_i {a b : Int} (h : a = b) : Ending.returned (.int .i64 a) = .returned (.int .i64 b) := by rw [h]

def Reads (w : World) (b : Nat) (s : ByteArray) (v : Value) (p : Nat) (e : Int) (x : Ending) (w' : World) : Prop := x = .returned v ∧ Rdr w' b s p e ∧ w.grownBy w' (some b)

theorem num_any (w : World) (b : Nat) (s : ByteArray) (p : Nat) (e n : Int) (h : Rdr w b s p e) (hp : p ≤ s.size) (hs : s.size ≤ 281474976710656) :
    Calls Try.prog 18 #[.pointer (some ⟨b, 0, none⟩), .int .i64 n] w (Reads w b s (.int .i64 (numR s p e n).1) (numR s p e n).2.1 (numR s p e n).2.2) := by
  by_cases he : e ≠ 0
  · have hv : numR s p e n = (0, p, e) := if_pos he
    rw [hv]
    have HE := Lib.hid (bne_iff_ne.2 he)
    clear hv he
    go_enter Try.func18, Try.ntmps18
    go_wp2_with (first | (go_at_call 31; refine (isWidth_any _ _).mono ?_; rintro e w' ⟨rfl, rfl⟩) | (go_at_call 33; refine (readn_was _ _ _ _ _ _ _ _ _ HE.out h hp hs).mono ?_; rintro e w1 ⟨rfl, hr, hg⟩))
    go_ret
    exact ⟨rfl, hr, hg⟩
  · have he' : e = 0 := by omega
    subst he'
    by_cases hw : 1 ≤ n ∧ n ≤ 8
    · have hw2 := isW_yes hw.1 hw.2
      by_cases hm : ((s.size - p : Nat) : Int) < n
      · have hv : numR s p 0 n = (0, p, 10) := by unfold numR; rw [if_neg he, if_neg (by omega), if_pos hm]
        rw [hv]
        clear hv
        go_enter Try.func18, Try.ntmps18
        go_wp2_with (first | (go_at_call 31; refine (isWidth_any _ _).mono ?_; rintro e w' ⟨rfl, rfl⟩) | (go_at_call 33; refine (readn_end _ _ _ _ _ _ hm h hp hs).mono ?_; rintro e w1 ⟨rfl, hr, hg⟩))
        go_ret
        exact ⟨rfl, hr, hg⟩
      · have hv : numR s p 0 n = (numS ((s.data.toList.drop p).take n.toNat), p + n.toNat, 0) := by unfold numR; rw [if_neg he, if_neg (by omega), if_neg hm]
        rw [hv]
        clear hv
        obtain ⟨m, rfl⟩ := Int.eq_ofNat_of_zero_le (show 0 ≤ n by omega)
        rw [Int.toNat_natCast]
        go_enter Try.func18, Try.ntmps18
        go_wp2_with (first | (go_at_call 31; refine (isWidth_any _ _).mono ?_; rintro e w' ⟨rfl, rfl⟩) | (go_at_call 33; refine (readn_ok _ _ _ _ _ (by omega) h hp hs).mono ?_; rintro e w1 ⟨rfl, hr, hg⟩))
        go_ret
        exact ⟨rfl, hr, hg⟩
    · have hw2 := isW_no hw
      have hv : numR s p 0 n = (0, p, 13) := by unfold numR; rw [if_neg he, if_pos hw]
      rw [hv]
      clear hv
      go_enter Try.func18, Try.ntmps18
      go_wp2_with (first | (go_at_call 31; refine (isWidth_any _ _).mono ?_; rintro e w' ⟨rfl, rfl⟩) | (go_at_call 33; refine (readn_wide _ _ _ _ _ _ _ h hp hs).mono ?_; rintro e w1 ⟨rfl, hr, hg⟩))
      go_ret
      exact ⟨rfl, hr, hg⟩

theorem bytes_any (w : World) (b : Nat) (s : ByteArray) (p : Nat) (e n : Int) (h : Rdr w b s p e) (hp : p ≤ s.size) (hs : s.size ≤ 281474976710656) :
    Calls Try.prog 22 #[.pointer (some ⟨b, 0, none⟩), .int .i64 n] w (Reads w b s (.string (bytesR s p e n).1) (bytesR s p e n).2.1 (bytesR s p e n).2.2) := by
  by_cases he : e ≠ 0
  · have hv : bytesR s p e n = (⟨#[]⟩, p, e) := if_pos he
    rw [hv]
    have HE := Lib.hid (bne_iff_ne.2 he)
    clear hv he
    go_enter Try.func22, Try.ntmps22
    go_wp2_with (go_at_call 37; refine (reads_was _ _ _ _ _ _ _ _ _ HE.out h hp hs).mono ?_; rintro e w1 ⟨rfl, hr, hg⟩)
    go_ret
    exact ⟨rfl, hr, hg⟩
  · have he' : e = 0 := by omega
    subst he'
    by_cases hw : n < 0
    · have hd : decide (n < 0) = true := decide_eq_true hw
      have hv : bytesR s p 0 n = (⟨#[]⟩, p, 13) := by unfold bytesR; rw [if_neg he, if_pos hw]
      rw [hv]
      clear hv
      go_enter Try.func22, Try.ntmps22
      go_wp2_with (go_at_call 37; refine (reads_wide _ _ _ _ _ _ _ h hp hs).mono ?_; rintro e w1 ⟨rfl, hr, hg⟩)
      go_ret
      exact ⟨rfl, hr, hg⟩
    · have hd : decide (n < 0) = false := decide_eq_false hw
      by_cases hm : ((s.size - p : Nat) : Int) < n
      · have hv : bytesR s p 0 n = (⟨#[]⟩, p, 10) := by unfold bytesR; rw [if_neg he, if_neg hw, if_pos hm]
        rw [hv]
        clear hv
        go_enter Try.func22, Try.ntmps22
        go_wp2_with (go_at_call 37; refine (reads_end _ _ _ _ _ _ hm h hp hs).mono ?_; rintro e w1 ⟨rfl, hr, hg⟩)
        go_ret
        exact ⟨rfl, hr, hg⟩
      · have hv : bytesR s p 0 n = (s.extract p (p + n.toNat), p + n.toNat, 0) := by unfold bytesR; rw [if_neg he, if_neg hw, if_neg hm]
        rw [hv]
        clear hv
        obtain ⟨m, rfl⟩ := Int.eq_ofNat_of_zero_le (show 0 ≤ n by omega)
        rw [Int.toNat_natCast]
        go_enter Try.func22, Try.ntmps22
        go_wp2_with (go_at_call 37; refine (bytes_ok _ _ _ _ _ (by omega) h hp hs).mono ?_; rintro e w1 ⟨rfl, hr, hg⟩)
        go_ret
        exact ⟨rfl, hr, hg⟩

theorem text_any (w : World) (b : Nat) (s : ByteArray) (p : Nat) (e n : Int) (h : Rdr w b s p e) (hp : p ≤ s.size) (hs : s.size ≤ 281474976710656) :
    Calls Try.prog 20 #[.pointer (some ⟨b, 0, none⟩), .int .i64 n] w (Reads w b s (.string (textR s p e n).1) (textR s p e n).2.1 (textR s p e n).2.2) := by
  have HK := headN_num s p
  by_cases he : e ≠ 0
  · have hv : textR s p e n = (⟨#[]⟩, p, e) := if_pos he
    rw [hv]
    have HE := Lib.hid (bne_iff_ne.2 he)
    clear hv he HK
    go_enter Try.func20, Try.ntmps20
    go_wp2_with (go_at_call 37; refine (reads_was _ _ _ _ _ _ _ _ _ HE.out h hp hs).mono ?_; rintro e w1 ⟨rfl, hr, hg⟩)
    go_ret
    exact ⟨rfl, hr, hg⟩
  · have he' : e = 0 := by omega
    subst he'
    by_cases hw : n < 0
    · have hd : decide (n < 0) = true := decide_eq_true hw
      have hv : textR s p 0 n = (⟨#[]⟩, p, 13) := by unfold textR; rw [if_neg he, if_pos hw]
      rw [hv]
      clear hv HK
      go_enter Try.func20, Try.ntmps20
      go_wp2_with (go_at_call 37; refine (reads_wide _ _ _ _ _ _ _ h hp hs).mono ?_; rintro e w1 ⟨rfl, hr, hg⟩)
      go_ret
      exact ⟨rfl, hr, hg⟩
    · have hd : decide (n < 0) = false := decide_eq_false hw
      by_cases h2 : s.size - p < 2
      · have hv : textR s p 0 n = (⟨#[]⟩, p, 10) := by unfold textR; rw [if_neg he, if_neg hw, if_pos h2]
        rw [hv]
        clear hv HK
        go_enter Try.func20, Try.ntmps20
        go_wp2_with (go_at_call 37; refine (reads_end2 _ _ _ _ _ _ h2 h hp hs).mono ?_; rintro e w1 ⟨rfl, hr, hg⟩)
        go_ret
        exact ⟨rfl, hr, hg⟩
      · by_cases hm : n < (headN s p : Int)
        · have hv : textR s p 0 n = (⟨#[]⟩, p, 11) := by unfold textR; rw [if_neg he, if_neg hw, if_neg h2, if_pos hm]
          rw [hv]
          have HK := Lib.hid HK
          clear hv
          generalize headN s p = k at *
          go_enter Try.func20, Try.ntmps20
          go_wp2_with (go_at_call 37; refine (text_long _ _ _ _ _ _ _ HK.out (by omega) hm h hp hs).mono ?_; rintro e w1 ⟨rfl, hr, hg⟩)
          go_ret
          exact ⟨rfl, hr, hg⟩
        · by_cases hl : s.size - p - 2 < headN s p
          · have hv : textR s p 0 n = (⟨#[]⟩, p, 10) := by unfold textR; rw [if_neg he, if_neg hw, if_neg h2, if_neg hm, if_pos hl]
            rw [hv]
            have HK := Lib.hid HK
            clear hv
            generalize headN s p = k at *
            go_enter Try.func20, Try.ntmps20
            go_wp2_with (go_at_call 37; refine (text_end _ _ _ _ _ _ _ HK.out (by omega) (by omega) hl h hp hs).mono ?_; rintro e w1 ⟨rfl, hr, hg⟩)
            go_ret
            exact ⟨rfl, hr, hg⟩
          · have hv : textR s p 0 n = (s.extract (p + 2) (p + (2 + headN s p)), p + (2 + headN s p), 0) := by unfold textR; rw [if_neg he, if_neg hw, if_neg h2, if_neg hm, if_neg hl]
            rw [hv]
            have HK := Lib.hid HK
            clear hv
            generalize headN s p = k at *
            go_enter Try.func20, Try.ntmps20
            go_wp2_with (go_at_call 37; refine (text_ok _ _ _ _ _ _ HK.out (by omega) (by omega) (by omega) h hp hs).mono ?_; rintro e w1 ⟨rfl, hr, hg⟩)
            go_ret
            exact ⟨rfl, hr, hg⟩

end Go.Proofs.Ytjehjkibgaeibaa
