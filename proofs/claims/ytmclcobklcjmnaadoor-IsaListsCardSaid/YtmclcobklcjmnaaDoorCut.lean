/- A text cut at the first of a byte. Conditions: a text as long as one may be. -/
import Derived.Test.YtmclcobklcjmnaaDoorDig
namespace Go.Proofs.YtmclcobklcjmnaaDoor
open Go.RowKit Go.Maps
set_option linter.unusedVariables false
set_option linter.unusedSimpArgs false

theorem ixB : ∀ (l : Bs) (c : UInt8), (Lib.indexByte l c = -1 ∧ cutB c l = (l, [], false)) ∨ (∃ i : Nat, Lib.indexByte l c = i ∧ i < l.length ∧ cutB c l = (l.take i, l.drop (i + 1), true))
  | [], c => .inl ⟨rfl, rfl⟩
  | x :: l, c => by
    unfold Lib.indexByte cutB
    by_cases h : x = c
    · rw [if_pos (by simpa using h), if_pos h]
      exact .inr ⟨0, rfl, by simp, by simp⟩
    · rw [if_neg (by simpa using h), if_neg h]
      rcases ixB l c with ⟨h1, h2⟩ | ⟨i, h1, h2, h3⟩
      · rw [h1, h2]
        exact .inl ⟨by simp, rfl⟩
      · rw [h1, h3]
        refine .inr ⟨i + 1, ?_, by simpa using h2, by simp⟩
        rw [if_neg (by simp)]
        rfl
theorem ext_take (s : ByteArray) (i : Nat) (h : i ≤ s.size) : s.extract 0 i = str (s.data.toList.take i) := by
  apply ByteArray.ext
  apply Array.ext'
  simp [str]
theorem ext_drop (s : ByteArray) (i : Nat) : s.extract i s.size = str (s.data.toList.drop i) := by
  apply ByteArray.ext
  apply Array.ext'
  rw [ByteArray.data_extract, Array.toList_extract, List.extract_eq_take_drop]
  show _ = s.data.toList.drop i
  exact List.take_of_length_le (by rw [List.length_drop, Array.length_toList]; exact Nat.le_refl _)
set_option maxRecDepth 20000 in
set_option maxHeartbeats 4000000 in
theorem cut72 (s : ByteArray) (c : UInt8) (hs : s.size ≤ 9223372036854775806) (w : World) : Calls Tryd.prog 72 #[.string s, .string ⟨#[c]⟩] w fun e w' => e = .returned (.tuple #[.string (str (cutB c s.data.toList).1), .string (str (cutB c s.data.toList).2.1), .bool (cutB c s.data.toList).2.2]) ∧ Below w.heap.size w w' := by
  have K := Lib.hid (Tryd.stringslite_Index_one s c)
  rcases ixB s.data.toList c with ⟨h1, h2⟩ | ⟨i, h1, h2, h3⟩
  · rw [h1] at K
    rw [h2]
    have e1 : Hid (str s.data.toList = s) := Lib.hid (str_toList s)
    have e2 : Hid (str [] = ByteArray.empty) := Lib.hid rfl
    rw [e1.out, e2.out]
    clear h1 h2
    go_enter Tryd.func72, Tryd.ntmps72
    go_wp2_with (go_at_call 84; (with_reducible refine (K.out _).mono ?_); rintro e w1 ⟨rfl, rfl⟩)
    go_ret3
    exact ⟨rfl, Below.refl _ _⟩
  · rw [h1] at K
    rw [h3]
    have hi : i < s.size := by simpa using h2
    have e1 := ext_take s i (by omega)
    have e2 := ext_drop s (i + 1)
    have E1 : Hid (str (s.data.toList.take i) = s.extract 0 i) := Lib.hid e1.symm
    have E2 : Hid (str (s.data.toList.drop (i + 1)) = s.extract (i + 1) s.size) := Lib.hid e2.symm
    dsimp only
    rw [E1.out, E2.out]
    clear e1 e2 h1 h2 h3
    have c1 : (0 : Int) ≤ (i : Int) := by omega
    have c2 : (i : Int) ≤ (s.size : Int) := by omega
    have c3 : (i : Int) + 1 ≤ (s.size : Int) := by omega
    have c4 : IntKind.i64.wrap ((i : Int) + 1) = (i : Int) + 1 := IntWalk.i64_in _ (by omega)
    have c5 : (0 : Int) ≤ (i : Int) + 1 := by omega
    have c6 : ((i : Int) + 1).toNat = i + 1 := by omega
    clear hs
    go_enter Tryd.func72, Tryd.ntmps72
    go_wp2_with (go_at_call 84; (with_reducible refine (K.out _).mono ?_); rintro e w1 ⟨rfl, rfl⟩)
    go_quiet (fail)
    go_wp2
    go_ret3
    exact ⟨rfl, below_drewN (Below.refl _ _) _⟩
set_option maxHeartbeats 4000000 in
theorem cut_any (s : ByteArray) (c : UInt8) (hs : s.size ≤ 9223372036854775806) (w : World) : Calls Tryd.prog 59 #[.string s, .string ⟨#[c]⟩] w fun e w' => e = .returned (.tuple #[.string (str (cutB c s.data.toList).1), .string (str (cutB c s.data.toList).2.1), .bool (cutB c s.data.toList).2.2]) ∧ Below w.heap.size w w' := by
  have K := Lib.hid (cut72 s c hs)
  clear hs
  generalize cutB c s.data.toList = t at *
  generalize str t.1 = a at *
  generalize str t.2.1 = b at *
  generalize t.2.2 = f at *
  go_enter Tryd.func59, Tryd.ntmps59
  go_wp2_with (go_at_call 72; (with_reducible refine (K.out _).mono ?_); rintro e w1 ⟨rfl, hb⟩; have HB := Lib.hid hb; clear hb)
  go_ret3
  exact ⟨rfl, HB.out⟩
end Go.Proofs.YtmclcobklcjmnaaDoor
