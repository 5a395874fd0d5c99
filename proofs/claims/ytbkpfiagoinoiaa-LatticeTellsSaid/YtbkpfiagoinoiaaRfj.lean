/- The other text's least bound and greatest bound: what the calls return, among whatever stays. No conditions. -/
import Derived.Test.YtbkpfiagoinoiaaRfl
import Derived.Test.YtbkpfiagoinoiaaInv
namespace Go.Proofs.Ytbkpfiagoinoiaa
open Go.RowKit
set_option linter.unusedVariables false

def bndD (n : Nat) (F : Flw) (x y : Int) (c : Nat) (d : Nat) : Bool := flB n F x d && flB n F y d && !flB n F c d
def lsT (n : Nat) (F : Flw) (x y : Int) (c : Nat) : Bool := (flB n F x c && flB n F y c) && (List.range n).all fun d => !bndD n F x y c d
def preT (n : Nat) (F : Flw) (x y : Int) (c d : Nat) : Bool := (flB n F x c && flB n F y c) && (List.range d).all fun d => !bndD n F x y c d
theorem preT_all (n : Nat) (F : Flw) (x y : Int) (c : Nat) : preT n F x y c n = lsT n F x y c := rfl
theorem preT_more (n : Nat) (F : Flw) (x y : Int) (c d : Nat) : preT n F x y c (d + 1) = (preT n F x y c d && !bndD n F x y c d) := by simp [preT, List.range_succ, Bool.and_assoc]
theorem preT_zero (n : Nat) (F : Flw) (x y : Int) (c : Nat) : preT n F x y c 0 = (flB n F x c && flB n F y c) := by simp [preT]
theorem lsT_next {n : Nat} {F : Flw} {x y : Int} {c : Nat} (hb : ∀ d, d < c → lsT n F x y d = false) (h : lsT n F x y c = false) (d : Nat) (hd : d < c + 1) : lsT n F x y d = false := by
  by_cases q : d = c
  · rw [q]; exact h
  · exact hb d (by omega)
def rjI (n : Nat) (F : Flw) (x y : Int) : Int := match (List.range n).find? (lsT n F x y) with | some c => (c : Int) | none => -1
theorem rjI_first {n : Nat} {F : Flw} {x y : Int} {c : Nat} (hc : c < n) (h : lsT n F x y c = true) (hb : ∀ d, d < c → lsT n F x y d = false) : rjI n F x y = (c : Int) := by
  have : (List.range n).find? (lsT n F x y) = some c := by
    rw [List.find?_range_eq_some]
    exact ⟨h, by simpa using hc, fun d hd => by simp [hb d hd]⟩
  unfold rjI; rw [this]
theorem rjI_none {n : Nat} {F : Flw} {x y : Int} (hb : ∀ d, d < n → lsT n F x y d = false) : rjI n F x y = -1 := by
  have : (List.range n).find? (lsT n F x y) = none := by
    rw [List.find?_eq_none]
    intro c hc
    simp [hb c (by simpa using hc)]
  unfold rjI; rw [this]
theorem all_more (p : Nat → Bool) (k : Nat) : (List.range (k + 1)).all p = ((List.range k).all p && p k) := by simp [List.range_succ]

section
variable {I : World → Prop} {L R cap : Nat} {B : Nat → Nat} {n : Nat} {F : Flw} (hk : Stays I) (hL : ∀ w1, I w1 → IsR w1 L R cap B n F)
include hk hL
omit hk in
theorem inv_rflows (x y : Int) (w1 : World) (h : I w1) :
    Calls Try.prog 15 #[.pointer (some ⟨L, 0, none⟩), .int .i64 x, .int .i64 y] w1 fun e w' => e = .returned (.bool (flB n F x y)) ∧ I w' :=
  (rflows_any L R cap B n F x y w1 (hL w1 h)).mono fun e w' ⟨h1, h2⟩ => ⟨h1, by rw [← h2]; exact h⟩
omit hk in
set_option maxRecDepth 100000 in
set_option maxHeartbeats 4000000 in
theorem inv_rjoin (hn : n ≤ 8) (x y : Int) (w1 : World) (h : I w1) :
    Calls Try.prog 17 #[.pointer (some ⟨L, 0, none⟩), .int .i64 x, .int .i64 y] w1 fun e w' => e = .returned (.int .i64 (rjI n F x y)) ∧ I w' := by
  have HF := Lib.hid (fun x y w1 q => inv_rflows hL x y w1 q)
  have hcn : Hid (∀ w1, I w1 → w1.cell? ⟨L, 0, none⟩ = some (.int .i64 (n : Int))) := fun w1 q => (hL w1 q).count
  have c0 := hcn.out _ h
  clear hL
  go_enter Try.func17, Try.ntmps17
  go_wp2_with fail
  go_loopw [7, 8, 9] (fun i _ _ wr => ∃ c : Nat, c ≤ n ∧ i = .int .i64 c ∧ (∀ d, d < c → lsT n F x y d = false) ∧ I wr) (fun i _ _ _ => n - (intOf i).toNat)
  case atStart => exact ⟨0, by omega, rfl, fun d hd => absurd hd (by omega), h⟩
  case round =>
    obtain ⟨c, hc, rfl, hb, gr⟩ := hrel
    have HB := Lib.hid hb
    have cc := hcn.out _ gr
    clear hb c0 h
    by_cases hlt : c < n
    · have hci : (c : Int) < (n : Int) := by omega
      have F1 := Lib.hid (HF.out x c)
      have F2 := Lib.hid (HF.out y c)
      have hS := preT_zero n F x y c
      cases hp : flB n F x c <;> cases hq : flB n F y c <;> rw [hp] at F1 hS <;> rw [hq] at F2 hS <;> simp only [Bool.and_true, Bool.and_false] at hS
      all_goals
        have HS := Lib.hid hS
        clear hS hp hq
        obtain ⟨wo, rfl⟩ : ∃ wo : World, wo = wr := ⟨_, rfl⟩
        go_wp2_with (first
          | (go_at_call 15; (with_reducible refine (F1.out _ (by assumption)).mono ?_); rintro e w' ⟨rfl, gg⟩)
          | (go_at_call 15; (with_reducible refine (F2.out _ (by assumption)).mono ?_); rintro e w' ⟨rfl, gg⟩))
        have gs := gg
        clear gr gg cc F1 F2
        have cs := hcn.out _ gs
        go_loopw [8, 9] (fun l i wr => ∃ d : Nat, d ≤ n ∧ i = .int .i64 d ∧ l = .bool (preT n F x y c d) ∧ I wr) (fun _ i _ => n - (intOf i).toNat)
        case atStart => exact ⟨0, by omega, rfl, by rw [HS.out], gs⟩
        case round =>
          obtain ⟨d, hd, rfl, rfl, gr⟩ := hrel
          have cc := hcn.out _ gr
          clear gs cs
          by_cases hlt2 : d < n
          · have hdi : (d : Int) < (n : Int) := by omega
            have F3 := Lib.hid (HF.out x d)
            have F4 := Lib.hid (HF.out y d)
            have F5 := Lib.hid (HF.out c d)
            have hm := preT_more n F x y c d
            have hbd : bndD n F x y c d = (flB n F x d && flB n F y d && !flB n F c d) := rfl
            rw [hbd] at hm
            generalize preT n F x y c d = T at *
            generalize flB n F x d = p at *
            generalize flB n F y d = q at *
            generalize flB n F c d = r at *
            rcases p <;> rcases q <;> rcases r <;> simp only [Bool.and_true, Bool.and_false, Bool.not_true, Bool.not_false] at hm
            all_goals
              have HM := Lib.hid hm
              clear hm hbd
              go_wp2_with (first
                | (go_at_call 15; (with_reducible refine (F3.out _ (by assumption)).mono ?_); rintro e w' ⟨rfl, gg⟩)
                | (go_at_call 15; (with_reducible refine (F4.out _ (by assumption)).mono ?_); rintro e w' ⟨rfl, gg⟩)
                | (go_at_call 15; (with_reducible refine (F5.out _ (by assumption)).mono ?_); rintro e w' ⟨rfl, gg⟩))
              first
                | exact ⟨⟨d + 1, by omega, by go_num, by rw [HM.out], gg⟩, by simp [intOf]; omega⟩
                | (refine ⟨?_, by simp [intOf]; omega⟩; repeat apply Exists.intro; exact ⟨⟨d + 1, by omega, by go_num, by rw [HM.out], gg⟩, rfl⟩)
          · have hdn : d = n := by omega
            have hd1 : decide ((d : Int) < (n : Int)) = false := by simp; omega
            have hl := preT_all n F x y c
            rw [← hdn] at hl
            rw [hdn]
            rw [preT_all]
            cases hv : lsT n F x y c with
            | true =>
              have hj := rjI_first hlt hv HB.out
              have HJ := Lib.hid hj
              clear hl hv hj
              go_wp2
              go_ret
              exact ⟨by rw [HJ.out]; rfl, gr⟩
            | false =>
              have hnx := lsT_next HB.out hv
              clear hl hv
              go_wp2
              first
                | exact ⟨⟨c + 1, by omega, by go_num, hnx, gr⟩, by simp [intOf]; omega⟩
                | (refine ⟨?_, by simp [intOf]; omega⟩; repeat apply Exists.intro; exact ⟨⟨c + 1, by omega, by go_num, hnx, gr⟩, rfl⟩)
    · have hcn2 : c = n := by omega
      have hj := rjI_none (n := n) (F := F) (x := x) (y := y) (fun d hd => HB.out d (by omega))
      have hd1 : decide ((c : Int) < (n : Int)) = false := by simp; omega
      have HJ := Lib.hid hj
      clear hj
      go_wp2
      go_ret
      exact ⟨by rw [HJ.out]; rfl, gr⟩
omit hk in
set_option maxRecDepth 100000 in
set_option maxHeartbeats 4000000 in
theorem inv_rmeet (hn : n ≤ 8) (x y : Int) (w1 : World) (h : I w1) :
    Calls Try.prog 19 #[.pointer (some ⟨L, 0, none⟩), .int .i64 x, .int .i64 y] w1 fun e w' => e = .returned (.int .i64 (rjI n (turn F) x y)) ∧ I w' := by
  have HF : Hid (∀ (x y : Int) (w1 : World), I w1 → Calls Try.prog 15 #[.pointer (some ⟨L, 0, none⟩), .int .i64 y, .int .i64 x] w1 fun e w' => e = .returned (.bool (flB n (turn F) x y)) ∧ I w') :=
    fun x y w1 q => by rw [flB_turn]; exact inv_rflows hL y x w1 q
  have hcn : Hid (∀ w1, I w1 → w1.cell? ⟨L, 0, none⟩ = some (.int .i64 (n : Int))) := fun w1 q => (hL w1 q).count
  have c0 := hcn.out _ h
  clear hL
  go_enter Try.func19, Try.ntmps19
  go_wp2_with fail
  go_loopw [7, 8, 9] (fun i _ _ wr => ∃ c : Nat, c ≤ n ∧ i = .int .i64 c ∧ (∀ d, d < c → lsT n (turn F) x y d = false) ∧ I wr) (fun i _ _ _ => n - (intOf i).toNat)
  case atStart => exact ⟨0, by omega, rfl, fun d hd => absurd hd (by omega), h⟩
  case round =>
    obtain ⟨c, hc, rfl, hb, gr⟩ := hrel
    have HB := Lib.hid hb
    have cc := hcn.out _ gr
    clear hb c0 h
    by_cases hlt : c < n
    · have hci : (c : Int) < (n : Int) := by omega
      have F1 := Lib.hid (HF.out x c)
      have F2 := Lib.hid (HF.out y c)
      have hS := preT_zero n (turn F) x y c
      cases hp : flB n (turn F) x c <;> cases hq : flB n (turn F) y c <;> rw [hp] at F1 hS <;> rw [hq] at F2 hS <;> simp only [Bool.and_true, Bool.and_false] at hS
      all_goals
        have HS := Lib.hid hS
        clear hS hp hq
        obtain ⟨wo, rfl⟩ : ∃ wo : World, wo = wr := ⟨_, rfl⟩
        go_wp2_with (first
          | (go_at_call 15; (with_reducible refine (F1.out _ (by assumption)).mono ?_); rintro e w' ⟨rfl, gg⟩)
          | (go_at_call 15; (with_reducible refine (F2.out _ (by assumption)).mono ?_); rintro e w' ⟨rfl, gg⟩))
        have gs := gg
        clear gr gg cc F1 F2
        have cs := hcn.out _ gs
        go_loopw [8, 9] (fun l i wr => ∃ d : Nat, d ≤ n ∧ i = .int .i64 d ∧ l = .bool (preT n (turn F) x y c d) ∧ I wr) (fun _ i _ => n - (intOf i).toNat)
        case atStart => exact ⟨0, by omega, rfl, by rw [HS.out], gs⟩
        case round =>
          obtain ⟨d, hd, rfl, rfl, gr⟩ := hrel
          have cc := hcn.out _ gr
          clear gs cs
          by_cases hlt2 : d < n
          · have hdi : (d : Int) < (n : Int) := by omega
            have F3 := Lib.hid (HF.out x d)
            have F4 := Lib.hid (HF.out y d)
            have F5 := Lib.hid (HF.out c d)
            have hm := preT_more n (turn F) x y c d
            have hbd : bndD n (turn F) x y c d = (flB n (turn F) x d && flB n (turn F) y d && !flB n (turn F) c d) := rfl
            rw [hbd] at hm
            generalize preT n (turn F) x y c d = T at *
            generalize flB n (turn F) x d = p at *
            generalize flB n (turn F) y d = q at *
            generalize flB n (turn F) c d = r at *
            rcases p <;> rcases q <;> rcases r <;> simp only [Bool.and_true, Bool.and_false, Bool.not_true, Bool.not_false] at hm
            all_goals
              have HM := Lib.hid hm
              clear hm hbd
              go_wp2_with (first
                | (go_at_call 15; (with_reducible refine (F3.out _ (by assumption)).mono ?_); rintro e w' ⟨rfl, gg⟩)
                | (go_at_call 15; (with_reducible refine (F4.out _ (by assumption)).mono ?_); rintro e w' ⟨rfl, gg⟩)
                | (go_at_call 15; (with_reducible refine (F5.out _ (by assumption)).mono ?_); rintro e w' ⟨rfl, gg⟩))
              first
                | exact ⟨⟨d + 1, by omega, by go_num, by rw [HM.out], gg⟩, by simp [intOf]; omega⟩
                | (refine ⟨?_, by simp [intOf]; omega⟩; repeat apply Exists.intro; exact ⟨⟨d + 1, by omega, by go_num, by rw [HM.out], gg⟩, rfl⟩)
          · have hdn : d = n := by omega
            have hd1 : decide ((d : Int) < (n : Int)) = false := by simp; omega
            have hl := preT_all n (turn F) x y c
            rw [← hdn] at hl
            rw [hdn]
            rw [preT_all]
            cases hv : lsT n (turn F) x y c with
            | true =>
              have hj := rjI_first hlt hv HB.out
              have HJ := Lib.hid hj
              clear hl hv hj
              go_wp2
              go_ret
              exact ⟨by rw [HJ.out]; rfl, gr⟩
            | false =>
              have hnx := lsT_next HB.out hv
              clear hl hv
              go_wp2
              first
                | exact ⟨⟨c + 1, by omega, by go_num, hnx, gr⟩, by simp [intOf]; omega⟩
                | (refine ⟨?_, by simp [intOf]; omega⟩; repeat apply Exists.intro; exact ⟨⟨c + 1, by omega, by go_num, hnx, gr⟩, rfl⟩)
    · have hcn2 : c = n := by omega
      have hj := rjI_none (n := n) (F := turn F) (x := x) (y := y) (fun d hd => HB.out d (by omega))
      have hd1 : decide ((c : Int) < (n : Int)) = false := by simp; omega
      have HJ := Lib.hid hj
      clear hj
      go_wp2
      go_ret
      exact ⟨by rw [HJ.out]; rfl, gr⟩
end
end Go.Proofs.Ytbkpfiagoinoiaa
