/- The four bytes of a line, and its label. Conditions: the library's variables are as they were laid. -/
import Derived.Test.YtmclcobklcjmnaaDoorIns
namespace Go.Proofs.YtmclcobklcjmnaaDoor
open Go.RowKit Go.Maps
set_option linter.unusedVariables false
set_option linter.unusedSimpArgs false

/-- a line that is neither empty nor a label: its bytes, its label -/
def bofP (l : Bs) : Option (Bs × Bs) :=
  if Lib.hasPrefix l wordL = true then (if wrdB (Lib.trimPrefix l wordL) = true then some (fourB (uN (Lib.trimPrefix l wordL)), []) else none)
  else (insP l).map fun x => (encI x.1, x.2)
def BofPost (T : Option (Bs × Bs)) (w : World) (e : Ending) (w' : World) : Prop := (∃ b lb, e = .returned (.tuple #[.string b, .string lb, .bool T.isSome]) ∧ ∀ j, T = some j → b = str j.1 ∧ lb = str j.2) ∧ Below w.heap.size w w'
theorem par_ok {l : Bs} {i : In} (h : parP l = some i) : okI i = true := (par_some h).1
theorem ins_ok {l : Bs} {x : In × Bs} (h : insP l = some x) : okI x.1 = true := by
  unfold insP at h
  split at h
  · cases hp : parP l with
    | none => rw [hp] at h; cases h
    | some i => rw [hp] at h; obtain rfl := Option.some.inj h; exact par_ok hp
  · split at h
    · cases h
    · split at h
      · rename_i i hp
        split at h
        · obtain rfl := Option.some.inj h; exact par_ok hp
        · cases h
      · cases h
set_option maxRecDepth 100000 in
set_option maxHeartbeats 4000000 in
theorem bof_any (s : ByteArray) (hs : s.size ≤ 281474976710000) (w : World) (hL : LaidV w) : Calls Tryd.prog 47 #[.string s] w (BofPost (bofP s.data.toList) w) := by
  have KC := Lib.hid (fun w => Tryd.strings_CutPrefix s ⟨#[119, 111, 114, 100, 32]⟩ w)
  rw [show (⟨#[119, 111, 114, 100, 32]⟩ : ByteArray).data.toList = wordL from rfl] at KC
  cases hp : Lib.hasPrefix s.data.toList wordL with
  | true =>
    obtain ⟨tl, htl⟩ : ∃ tl, tl = Lib.trimPrefix s.data.toList wordL := ⟨_, rfl⟩
    have hT : bofP s.data.toList = if wrdB tl = true then some (fourB (uN tl), []) else none := by unfold bofP; rw [if_pos hp, htl]
    rw [hT]
    rw [hp, ← htl] at KC
    have hlen : tl.length ≤ s.size := by
      rw [htl]
      unfold Lib.trimPrefix
      rw [if_pos hp, List.length_drop, Array.length_toList]
      show s.size - _ ≤ s.size
      omega
    have KW : Hid (∀ w1, Below w.heap.size w w1 → Calls Tryd.prog 66 #[.string (str tl)] w1 fun e w' => e = .returned (.tuple #[.string (str (wrdS tl)), .bool (wrdB tl)]) ∧ Below w1.heap.size w1 w') := Lib.hid fun w1 h => by
      have := wrd_any (str tl) (by rw [str_size]; omega) w1 (hL.below h)
      rwa [str_list] at this
    have KC2 : Hid (∀ w, Calls Tryd.prog 61 #[.string s, .string ⟨#[119, 111, 114, 100, 32]⟩] w fun e w' => e = .returned (.tuple #[.string (str tl), .bool true]) ∧ w' = w) := Lib.hid fun w => KC.out w
    have hpost : Hid (∀ w', Below w.heap.size w w' → BofPost (if wrdB tl = true then some (fourB (uN tl), []) else none) w (.returned (.tuple #[.string (str (wrdS tl)), .string ByteArray.empty, .bool (wrdB tl)])) w') := Lib.hid fun w' hb => by
      refine ⟨⟨str (wrdS tl), ByteArray.empty, ?_, ?_⟩, hb⟩
      · cases wrdB tl <;> rfl
      · intro j hj
        unfold wrdS
        split at hj
        · rename_i h; obtain rfl := Option.some.inj hj; rw [if_pos h]; exact ⟨rfl, rfl⟩
        · cases hj
    have HA := Lib.hid (Below.refl w.heap.size w)
    clear KC hT hp htl hlen hs hL
    generalize (if wrdB tl = true then some (fourB (uN tl), ([] : Bs)) else none) = T at *
    generalize str (wrdS tl) = t at *
    generalize wrdB tl = b at *
    go_enter Tryd.func47, Tryd.ntmps47
    go_wp2_with (first
      | (go_at_call 61; (with_reducible refine (KC2.out _).mono ?_); rintro e w1 ⟨rfl, rfl⟩)
      | (go_at_call 66; (with_reducible refine (KW.out _ HA.out).mono ?_); rintro e w2 ⟨rfl, hb⟩; have HB := Lib.hid hb; clear hb))
    go_ret3
    exact hpost.out _ HB.out
  | false =>
    have hT : bofP s.data.toList = (insP s.data.toList).map fun x => (encI x.1, x.2) := by unfold bofP; rw [if_neg (by rw [hp]; simp)]
    rw [hT]
    rw [hp] at KC
    have KI := Lib.hid (ins_any s hs w hL)
    obtain ⟨tp, htp⟩ : ∃ tp, tp = Lib.trimPrefix s.data.toList wordL := ⟨_, rfl⟩
    rw [← htp] at KC
    have KC2 : Hid (∀ w, Calls Tryd.prog 61 #[.string s, .string ⟨#[119, 111, 114, 100, 32]⟩] w fun e w' => e = .returned (.tuple #[.string (str tp), .bool false]) ∧ w' = w) := Lib.hid fun w => KC.out w
    cases hi : insP s.data.toList with
    | none =>
      rw [hi] at KI
      have hpost : Hid (∀ w', Below w.heap.size w w' → BofPost (Option.map (fun x => (encI x.1, x.2)) (none : Option (In × Bs))) w (.returned (.tuple #[.string ByteArray.empty, .string ByteArray.empty, .bool false])) w') := Lib.hid fun w' hb => ⟨⟨_, _, rfl, fun j hj => by cases hj⟩, hb⟩
      generalize str tp = t at *
      clear KC hT hp htp hs hL hi
      go_enter Tryd.func47, Tryd.ntmps47
      go_wp2_with (first
        | (go_at_call 61; (with_reducible refine (KC2.out _).mono ?_); rintro e w1 ⟨rfl, rfl⟩)
        | (go_at_call 67; (with_reducible refine KI.out.mono ?_); rintro e w2 ⟨⟨i, lb, rfl, -⟩, hb⟩; obtain ⟨op, a, b, imm⟩ := i; unfold inV; dsimp only [Option.isSome]; have HB := Lib.hid hb; clear hb))
      go_ret3
      exact hpost.out _ (HB.out.alloc HB.out.size _)
    | some x =>
      rw [hi] at KI
      have hok := ins_ok hi
      have KE := Lib.hid (enc_any x.1)
      unfold encS ckE at KE
      rw [if_pos hok, if_pos hok] at KE
      obtain ⟨⟨op, a, b, imm⟩, L⟩ := x
      have hpost : Hid (∀ w', Below w.heap.size w w' → BofPost (Option.map (fun x => (encI x.1, x.2)) (some ((⟨op, a, b, imm⟩ : In), L))) w (.returned (.tuple #[.string (str (encI ⟨op, a, b, imm⟩)), .string (str L), .bool true])) w') := Lib.hid fun w' hb => ⟨⟨_, _, rfl, fun j hj => by obtain rfl := Option.some.inj hj; exact ⟨rfl, rfl⟩⟩, hb⟩
      dsimp only at *
      generalize str tp = t at *
      generalize str (encI ⟨op, a, b, imm⟩) = en at *
      clear KC hT hp htp hs hL hi hok
      unfold inV at KE
      dsimp only at KE
      go_enter Tryd.func47, Tryd.ntmps47
      go_wp2_with (first
        | (go_at_call 61; (with_reducible refine (KC2.out _).mono ?_); rintro e w1 ⟨rfl, rfl⟩)
        | (go_at_call 67; (with_reducible refine KI.out.mono ?_); rintro e w2 ⟨⟨i, lb, rfl, hj⟩, hb⟩; obtain ⟨rfl, rfl⟩ := hj _ rfl; unfold inV; dsimp only [Option.isSome]; have HB := Lib.hid hb; clear hb hj)
        | (go_at_call 15; (with_reducible refine (KE.out _).mono ?_); rintro e w3 ⟨rfl, hb⟩; have HB2 := Lib.hid hb; clear hb))
      go_ret3
      exact hpost.out _ ((HB.out.alloc HB.out.size _).trans (HB2.out.mono (by have := HB.out.size; simp; omega)))
end Go.Proofs.YtmclcobklcjmnaaDoor
