/- The number of the operation of a name. No conditions. -/
import Derived.Test.YtmclcobklcjmnaaDoorEnc
namespace Go.Proofs.YtmclcobklcjmnaaDoor
open Go.RowKit Go.Maps
set_option linter.unusedVariables false
set_option linter.unusedSimpArgs false

theorem numF_some : ∀ (l : List Bs) (k : Nat) (s : Bs) (j : Nat), j < l.length → (∀ i, i < j → l.getD i [] ≠ s) → l.getD j [] = s → numF l k s = some (k + j)
  | [], k, s, j, h, _, _ => absurd h (by simp)
  | x :: l, k, s, 0, h, _, e => by
    unfold numF
    rw [if_pos (by simpa using e)]
    rfl
  | x :: l, k, s, j + 1, h, hn, e => by
    unfold numF
    rw [if_neg (by have := hn 0 (by omega); simpa using this)]
    rw [numF_some l (k + 1) s j (by simpa using h) (fun i hi => by have := hn (i + 1) (by omega); simpa using this) (by simpa using e)]
    congr 1
    omega
theorem numF_none : ∀ (l : List Bs) (k : Nat) (s : Bs), (∀ i, i < l.length → l.getD i [] ≠ s) → numF l k s = none
  | [], k, s, _ => rfl
  | x :: l, k, s, hn => by
    unfold numF
    rw [if_neg (by have := hn 0 (by simp); simpa using this)]
    exact numF_none l (k + 1) s (fun i hi => by have := hn (i + 1) (by simpa using hi); simpa using this)
def numV (s : Bs) : Int := match numP s with | some k => (k : Int) | none => 0
def numB (s : Bs) : Bool := (numP s).isSome
theorem str_eq_iff (l : Bs) (s : ByteArray) : str l = s ↔ l = s.data.toList := by
  constructor
  · rintro rfl; exact (str_list l).symm
  · rintro rfl; exact str_toList s
set_option maxRecDepth 20000 in
set_option maxHeartbeats 4000000 in
theorem num_any (s : ByteArray) (w : World) : Calls Tryd.prog 60 #[.string s] w fun e w' => e = .returned (.tuple #[.int .i64 (numV s.data.toList), .bool (numB s.data.toList)]) ∧ Below w.heap.size w w' := by
  have K := Lib.hid table_any
  have IX : Hid (∀ k : Nat, k < 30 → ∀ w, (Instr.index 98 (.agg tabV) (.int .i64 (k : Int))).run Tryd.prog w = .ok (.agg #[.string (str (nams.getD k [])), .int .i64 ((frms.getD k 0 : Nat) : Int)]) w) := Lib.hid tab_at
  generalize tabV = T at *
  go_enter Tryd.func60, Tryd.ntmps60
  go_wp2_with (go_at_call 55; (with_reducible refine (K.out _).mono ?_); rintro e w1 ⟨rfl, hb⟩; have HB := Lib.hid hb; clear hb)
  go_loopw [7] (fun i wr => ∃ k : Nat, k ≤ 30 ∧ i = .int .i64 (k : Int) ∧ (∀ j, j < k → nams.getD j [] ≠ s.data.toList) ∧ Below w.heap.size w wr) (fun i _ => 30 - (intOf i).toNat)
  case atStart => exact ⟨0, by omega, rfl, fun j hj => absurd hj (by omega), HB.out⟩
  case round =>
    obtain ⟨k, hk, rfl, hno, hbw⟩ := hrel
    have HNO := Lib.hid hno
    have HBW := Lib.hid hbw
    clear hno hbw
    by_cases h : k < 30
    · have ix := IX.out k h
      obtain ⟨x, hx⟩ : ∃ x, x = nams.getD k [] := ⟨_, rfl⟩
      obtain ⟨f, hf⟩ : ∃ f, f = ((frms.getD k 0 : Nat) : Int) := ⟨_, rfl⟩
      rw [← hx, ← hf] at ix
      have HX := Lib.hid hx
      clear hx hf
      by_cases e : x = s.data.toList
      · have es : str x = s := (str_eq_iff _ _).2 e
        have hp : numP s.data.toList = some k := by
          have := numF_some nams 0 s.data.toList k (by simpa [nams] using h) HNO.out (by rw [← HX.out]; exact e)
          rw [show numP s.data.toList = _ from this]; congr 1; omega
        have hv : Hid (numV s.data.toList = k ∧ numB s.data.toList = true) := Lib.hid ⟨by unfold numV; rw [hp], by unfold numB; rw [hp]; rfl⟩
        rw [es] at ix
        clear e es hp
        go_wp2
        go_ret2
        exact ⟨by rw [hv.out.1, hv.out.2]; rfl, HBW.out.alloc HBW.out.size _⟩
      · have es : ¬ str x = s := fun h => e ((str_eq_iff _ _).1 h)
        have hq : ((str x).toList == s.toList) = false := by rw [ByteArray.toList_eq, ByteArray.toList_eq, str_list]; simpa using e
        generalize str x = sx at *
        have HE := Lib.hid e
        clear e
        go_wp2
        go_roundw
        case rel => exact ⟨k + 1, by omega, by go_num, fun j hj => by
          rcases Nat.lt_succ_iff_lt_or_eq.1 hj with h2 | rfl
          · exact HNO.out j h2
          · rw [← HX.out]; exact HE.out, HBW.out.alloc HBW.out.size _⟩
        case measure => simp [intOf]; omega
    · obtain rfl : k = 30 := by omega
      have hp : numP s.data.toList = none := numF_none nams 0 _ (fun i hi => HNO.out i (by simpa [nams] using hi))
      have hv : Hid (numV s.data.toList = 0 ∧ numB s.data.toList = false) := Lib.hid ⟨by unfold numV; rw [hp], by unfold numB; rw [hp]; rfl⟩
      clear hp
      go_wp2
      go_ret2
      exact ⟨by rw [hv.out.1, hv.out.2]; rfl, HBW.out⟩
end Go.Proofs.YtmclcobklcjmnaaDoor
