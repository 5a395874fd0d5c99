/- The other text's lattice: all above a level, all below it, the top, the bottom: what the calls return, among whatever stays. Conditions: at most eight levels. -/
import Derived.Test.YtbkpfiagoinoiaaRnx
import Derived.Deep.RegionHeld3
namespace Go.Proofs.Ytbkpfiagoinoiaa
open Go.RowKit
set_option linter.unusedVariables false

def rabL (n : Nat) (F : Flw) (x : Int) (k : Nat) : List Nat := (List.range k).filter fun b => flB n F x b
theorem rabL_yes {n : Nat} {F : Flw} {x : Int} {k : Nat} (h : flB n F x k = true) : rabL n F x (k + 1) = rabL n F x k ++ [k] := by simp [rabL, List.range_succ, List.filter_append, h]
theorem rabL_no {n : Nat} {F : Flw} {x : Int} {k : Nat} (h : flB n F x k = false) : rabL n F x (k + 1) = rabL n F x k := by simp [rabL, List.range_succ, List.filter_append, h]
theorem rabL_len (n : Nat) (F : Flw) (x : Int) (k : Nat) : (rabL n F x k).length ≤ k := by
  have := List.length_filter_le (fun b : Nat => flB n F x b) (List.range k)
  simpa [rabL] using this
theorem rabL_lvl {n : Nat} {F G : Flw} (hF : ∀ i j, i < n → j < n → F i j = G i j) (oG : Off n G) (n8 : n ≤ 8) (x : Int) : rabL n F x n = lvlL n G x := by
  unfold rabL lvlL
  cases h : hasB n x with
  | false => simp [flB, h]
  | true =>
    obtain ⟨a, rfl, ha⟩ := hasB_nat h
    rw [if_pos rfl, Int.toNat_natCast]
    unfold upL
    have e : List.range 8 = List.range n ++ (List.range (8 - n)).map (n + ·) := by
      rw [show (8 : Nat) = n + (8 - n) by omega, List.range_add, show n + (8 - n) - n = 8 - n by omega]
    rw [e, List.filter_append]
    have e2 : ((List.range (8 - n)).map (n + ·)).filter (G a) = [] := by
      rw [List.filter_eq_nil_iff]
      intro y hy
      simp only [List.mem_map, List.mem_range] at hy
      obtain ⟨z, hz, rfl⟩ := hy
      rw [oG a (n + z) (by omega) (by omega) (.inr (by omega))]
      simp; omega
    rw [e2, List.append_nil]
    refine List.filter_congr fun y hy => ?_
    have hy : y < n := by simpa using hy
    rw [flB_nat _ _ _ _ ha hy, hF a y ha hy]

section
variable {I : World → Prop} {L R cap : Nat} {B : Nat → Nat} {n : Nat} {F : Flw} (hk : Stays I) (hL : ∀ w1, I w1 → IsR w1 L R cap B n F) (n8 : n ≤ 8)
include hk hL n8
set_option maxHeartbeats 1000000 in
theorem inv_rabove (x : Int) (w : World) (h : I w) :
    Calls Try.prog 23 #[.pointer (some ⟨L, 0, none⟩), .int .i64 x] w fun e w' => ∃ v, e = .returned v ∧ w'.ownsRow w.heap.size 3 1 v (rabL n F x n).length ((rabL n F x n).map cellI) ∧ Below w.heap.size w w' := by
  obtain ⟨i0, hi, hz0, hz1, hz2⟩ := info_parts Try.info3
  have HI := Lib.hid (And.intro hi (And.intro hz0 (And.intro hz1 hz2)))
  obtain ⟨D, hD⟩ : ∃ D, D = w.heap.size := ⟨_, rfl⟩
  rw [← hD]
  have own0 : (w.alloc (.cells #[] 3)).ownsRow D 3 1 (.slice (some ⟨D, 0, none⟩) 0 0) (rabL n F x 0).length ((rabL n F x 0).map cellI) := by
    have := World.ownsRow_made (base := D) (e := 3) (size := 1) w #[] 0 (by omega) (by unfold maxLen; omega) rfl
    rw [← hD] at this
    exact this
  have bel : Below D w (w.alloc (.cells #[] 3)) := by rw [hD]; exact (Below.refl _ w).alloc (Nat.le_refl _) _
  have hsz : D ≤ (w.alloc (.cells #[] 3)).heap.size := by rw [hD]; simp
  have KI : Hid (∀ w1, Below D w w1 → IsR w1 L R cap B n F) := fun w1 hb => hL w1 (hk w w1 h (by rw [← hD]; exact hb))
  have KF : Hid (∀ w1, Below D w w1 → ∀ k : Nat, Calls Try.prog 15 #[.pointer (some ⟨L, 0, none⟩), .int .i64 x, .int .i64 (k : Int)] w1 fun e w' => e = .returned (.bool (flB n F x k)) ∧ w1 = w') := fun w1 hb k => by
    exact rflows_any L R cap B n F _ _ w1 (KI.out w1 hb)
  have c0 := (KI.out _ bel).count
  have HD := Lib.hid hD
  have hzz : w.heap.size = D := hD.symm
  clear hi hz0 hz1 hz2 hk hL h hD
  go_enter Try.func23, Try.ntmps23
  go_wp2
  generalize w.alloc (.cells #[] 3) = w0 at *
  go_loopw [5, 6] (fun v i wr => ∃ k : Nat, k ≤ n ∧ i = .int .i64 k ∧ wr.ownsRow D 3 1 v (rabL n F x k).length ((rabL n F x k).map cellI) ∧ Below D w wr ∧ D ≤ wr.heap.size) (fun _ i _ => n - (intOf i).toNat)
  case atStart => exact ⟨0, by omega, rfl, own0, bel, hsz⟩
  case round =>
    obtain ⟨k, hk, rfl, own, hb, hs⟩ := hrel
    clear own0 bel hsz hzz c0
    have c0 := (KI.out _ hb).count
    have hl := rabL_len n F x k
    by_cases hlt : k < n
    · have hki : (k : Int) < (n : Int) := by omega
      have A1 := KF.out _ hb k
      cases hx : flB n F x k with
      | true =>
        have e := rabL_yes hx
        rw [hx] at A1
        have HE := Lib.hid e
        have HA := Lib.hid A1
        clear e hx A1
        go_wp2_with (first
          | (go_at_call 15; (with_reducible refine (HA.out).mono ?_); rintro e w' ⟨rfl, rfl⟩)
          | (at_builtin; refine wpList_append_own _ rfl _ _ 38 rfl D 3 i0 (.int .i64 0) 1 8 Try.underlying38 HI.out.1 HI.out.2.1 HI.out.2.2.1 HI.out.2.2.2 rfl (by decide) _ _ _ rfl (own.alloc _) ⟨wr.heap.size, 0, none⟩ 1 1 [.int .i64 (k : Int)] rfl rfl ?c1 ?c2 ?c3 ?c4 ?c5 ?_))
        case c1 => intro j u hj; match j, hj with | 0, hj => simp at hj; subst hj; simp [Addr.add]
        case c2 => intro u hu; simp at hu; subst hu; rfl
        case c3 => unfold maxLen; omega
        case c4 => omega
        case c5 => simp; omega
        · intro v' w1 own' hg hnil
          have hb' : Below D w w1 := (hb.alloc (by omega) _).grown hg (by simp; omega) (fun g hgg => by have := (own.lt g hgg).1; omega)
          have hs' : D ≤ w1.heap.size := by have := hg.size; simp at this; omega
          have own2 : w1.ownsRow D 3 1 v' (rabL n F x (k + 1)).length ((rabL n F x (k + 1)).map cellI) := by
            rw [HE.out, List.length_append, List.map_append]; exact own'
          clear hnil hg own own' hb hs c0
          go_wp2
          first
            | exact ⟨⟨k + 1, by omega, by go_num, own2, hb', hs'⟩, by simp [intOf]; omega⟩
            | (refine ⟨?_, by simp [intOf]; omega⟩; repeat apply Exists.intro; exact ⟨⟨k + 1, by omega, by go_num, own2, hb', hs'⟩, rfl⟩)
      | false =>
        have e := rabL_no hx
        rw [hx] at A1
        rw [← e] at own
        have HA := Lib.hid A1
        clear e hx A1
        go_wp2_with (go_at_call 15; (with_reducible refine (HA.out).mono ?_); rintro e w' ⟨rfl, rfl⟩)
        first
          | exact ⟨⟨k + 1, by omega, by go_num, own, hb, hs⟩, by simp [intOf]; omega⟩
          | (refine ⟨?_, by simp [intOf]; omega⟩; repeat apply Exists.intro; exact ⟨⟨k + 1, by omega, by go_num, own, hb, hs⟩, rfl⟩)
    · have hkn : k = n := by omega
      subst hkn
      have hd0 : decide ((k : Int) < (k : Int)) = false := by simp
      go_wp2
      go_ret
      exact ⟨_, rfl, own, hb⟩
set_option maxHeartbeats 1000000 in
theorem inv_rbelow (x : Int) (w : World) (h : I w) :
    Calls Try.prog 24 #[.pointer (some ⟨L, 0, none⟩), .int .i64 x] w fun e w' => ∃ v, e = .returned v ∧ w'.ownsRow w.heap.size 3 1 v (rabL n (turn F) x n).length ((rabL n (turn F) x n).map cellI) ∧ Below w.heap.size w w' := by
  obtain ⟨i0, hi, hz0, hz1, hz2⟩ := info_parts Try.info3
  have HI := Lib.hid (And.intro hi (And.intro hz0 (And.intro hz1 hz2)))
  obtain ⟨D, hD⟩ : ∃ D, D = w.heap.size := ⟨_, rfl⟩
  rw [← hD]
  have own0 : (w.alloc (.cells #[] 3)).ownsRow D 3 1 (.slice (some ⟨D, 0, none⟩) 0 0) (rabL n (turn F) x 0).length ((rabL n (turn F) x 0).map cellI) := by
    have := World.ownsRow_made (base := D) (e := 3) (size := 1) w #[] 0 (by omega) (by unfold maxLen; omega) rfl
    rw [← hD] at this
    exact this
  have bel : Below D w (w.alloc (.cells #[] 3)) := by rw [hD]; exact (Below.refl _ w).alloc (Nat.le_refl _) _
  have hsz : D ≤ (w.alloc (.cells #[] 3)).heap.size := by rw [hD]; simp
  have KI : Hid (∀ w1, Below D w w1 → IsR w1 L R cap B n F) := fun w1 hb => hL w1 (hk w w1 h (by rw [← hD]; exact hb))
  have KF : Hid (∀ w1, Below D w w1 → ∀ k : Nat, Calls Try.prog 15 #[.pointer (some ⟨L, 0, none⟩), .int .i64 (k : Int), .int .i64 x] w1 fun e w' => e = .returned (.bool (flB n (turn F) x k)) ∧ w1 = w') := fun w1 hb k => by
    rw [flB_turn]; exact rflows_any L R cap B n F _ _ w1 (KI.out w1 hb)
  have c0 := (KI.out _ bel).count
  have HD := Lib.hid hD
  have hzz : w.heap.size = D := hD.symm
  clear hi hz0 hz1 hz2 hk hL h hD
  go_enter Try.func24, Try.ntmps24
  go_wp2
  generalize w.alloc (.cells #[] 3) = w0 at *
  go_loopw [5, 6] (fun v i wr => ∃ k : Nat, k ≤ n ∧ i = .int .i64 k ∧ wr.ownsRow D 3 1 v (rabL n (turn F) x k).length ((rabL n (turn F) x k).map cellI) ∧ Below D w wr ∧ D ≤ wr.heap.size) (fun _ i _ => n - (intOf i).toNat)
  case atStart => exact ⟨0, by omega, rfl, own0, bel, hsz⟩
  case round =>
    obtain ⟨k, hk, rfl, own, hb, hs⟩ := hrel
    clear own0 bel hsz hzz c0
    have c0 := (KI.out _ hb).count
    have hl := rabL_len n (turn F) x k
    by_cases hlt : k < n
    · have hki : (k : Int) < (n : Int) := by omega
      have A1 := KF.out _ hb k
      cases hx : flB n (turn F) x k with
      | true =>
        have e := rabL_yes hx
        rw [hx] at A1
        have HE := Lib.hid e
        have HA := Lib.hid A1
        clear e hx A1
        go_wp2_with (first
          | (go_at_call 15; (with_reducible refine (HA.out).mono ?_); rintro e w' ⟨rfl, rfl⟩)
          | (at_builtin; refine wpList_append_own _ rfl _ _ 38 rfl D 3 i0 (.int .i64 0) 1 8 Try.underlying38 HI.out.1 HI.out.2.1 HI.out.2.2.1 HI.out.2.2.2 rfl (by decide) _ _ _ rfl (own.alloc _) ⟨wr.heap.size, 0, none⟩ 1 1 [.int .i64 (k : Int)] rfl rfl ?c1 ?c2 ?c3 ?c4 ?c5 ?_))
        case c1 => intro j u hj; match j, hj with | 0, hj => simp at hj; subst hj; simp [Addr.add]
        case c2 => intro u hu; simp at hu; subst hu; rfl
        case c3 => unfold maxLen; omega
        case c4 => omega
        case c5 => simp; omega
        · intro v' w1 own' hg hnil
          have hb' : Below D w w1 := (hb.alloc (by omega) _).grown hg (by simp; omega) (fun g hgg => by have := (own.lt g hgg).1; omega)
          have hs' : D ≤ w1.heap.size := by have := hg.size; simp at this; omega
          have own2 : w1.ownsRow D 3 1 v' (rabL n (turn F) x (k + 1)).length ((rabL n (turn F) x (k + 1)).map cellI) := by
            rw [HE.out, List.length_append, List.map_append]; exact own'
          clear hnil hg own own' hb hs c0
          go_wp2
          first
            | exact ⟨⟨k + 1, by omega, by go_num, own2, hb', hs'⟩, by simp [intOf]; omega⟩
            | (refine ⟨?_, by simp [intOf]; omega⟩; repeat apply Exists.intro; exact ⟨⟨k + 1, by omega, by go_num, own2, hb', hs'⟩, rfl⟩)
      | false =>
        have e := rabL_no hx
        rw [hx] at A1
        rw [← e] at own
        have HA := Lib.hid A1
        clear e hx A1
        go_wp2_with (go_at_call 15; (with_reducible refine (HA.out).mono ?_); rintro e w' ⟨rfl, rfl⟩)
        first
          | exact ⟨⟨k + 1, by omega, by go_num, own, hb, hs⟩, by simp [intOf]; omega⟩
          | (refine ⟨?_, by simp [intOf]; omega⟩; repeat apply Exists.intro; exact ⟨⟨k + 1, by omega, by go_num, own, hb, hs⟩, rfl⟩)
    · have hkn : k = n := by omega
      subst hkn
      have hd0 : decide ((k : Int) < (k : Int)) = false := by simp
      go_wp2
      go_ret
      exact ⟨_, rfl, own, hb⟩
end
end Go.Proofs.Ytbkpfiagoinoiaa
