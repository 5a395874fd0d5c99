/- What is above a join is above both, and the other way: the walk, but for what the other text says of pairs that make none. Conditions: there are at most as many pairs as a machine holds. -/
import Derived.Test.YtbkpfiagoinoiaaInv
namespace Go.Proofs.Ytbkpfiagoinoiaa
open Go.RowKit
set_option linter.unusedVariables false

theorem Lat.flB_jn {n : Nat} {G : Flw} (L : Lat n G) {a b : Nat} (ha : a < n) (hb : b < n) (c : Int) : flB n G (jn n G a b : Nat) c = (flB n G a c && flB n G b c) := by
  have n8 := L.n8
  cases h : hasB n c with
  | false => simp [flB, h]
  | true =>
    obtain ⟨k, rfl, hk⟩ := hasB_nat h
    rw [flB_nat _ _ _ _ (L.jn_lt ha hb) hk, flB_nat _ _ _ _ ha hk, flB_nat _ _ _ _ hb hk, L.jn_at ha hb k (by omega)]
theorem Lat.flB_mt {n : Nat} {G : Flw} (L : Lat n G) {a b : Nat} (ha : a < n) (hb : b < n) (c : Int) : flB n G c (jn n (turn G) a b : Nat) = (flB n G c a && flB n G c b) := by
  have := L.turned.flB_jn ha hb c
  rw [flB_turn, flB_turn, flB_turn] at this
  exact this

/-- what the other text must say of pairs that make no lattice: a code that is not nought -/
def RefNo (n : Int) (ao : Option Addr) (cap : Nat) (ps : List (Int × Int)) (w1 : World) : Prop :=
  Calls Try.prog 11 #[.int .i64 n, .slice ao ps.length cap] w1 fun e w' => ∃ v : Value, ∃ k : Int, e = .returned (.tuple #[v, .int .i64 k]) ∧ (k == 0) = false ∧ Below w1.heap.size w1 w'

set_option maxRecDepth 100000 in
set_option maxHeartbeats 8000000 in
theorem bounds_walk0 (n : Int) (ao : Option Addr) (cap : Nat) (ps : List (Int × Int)) (c : Int) (w : World) (hl2 : ps.length ≤ 140737488355328) (hP : LiesP w ao ps)
    (hR : newE n ps ≠ 0 → ∀ w1, LiesP w1 ao ps → RefNo n ao cap ps w1) :
    Calls Try.prog 9 #[.int .i64 n, .slice ao ps.length cap, .int .i64 c] w fun e w' => e = .returned (.bool true) ∧ Below w.heap.size w w' := by
  have st0 := stays_below w
  obtain ⟨M, hM⟩ : ∃ M, M = ps.length := ⟨_, rfl⟩
  by_cases he : newE n ps = 0
  · have hok := newE_ok he
    have L := new_lat he
    obtain ⟨m, rfl⟩ : ∃ m : Nat, n = (m : Int) := ⟨n.toNat, by omega⟩
    rw [Int.toNat_natCast] at L hok
    have m8 := L.n8
    have m1 := L.n1
    have N1 := inv_new st0 (m : Int) ao cap ps hl2 w (Below.refl _ _) hP he
    generalize newG ps = G at *
    rw [← hM] at N1 ⊢
    have NN1 := Lib.hid N1
    clear N1 hok he hP hM hl2 hR
    go_enter Try.func9, Try.ntmps9
    go_wp2_with fail
    (with_reducible refine NN1.out.mono ?_)
    rintro e w1 ⟨b1, rfl, i1, l1, k1⟩
    rw [Int.toNat_natCast] at l1
    obtain ⟨I, hI⟩ : ∃ I : World → Prop, I = fun w1 => Below w.heap.size w w1 ∧ IsL w1 b1 m G := ⟨_, rfl⟩
    have g1 : I w1 := by rw [hI]; exact ⟨i1, l1⟩
    have stI : Stays I := by rw [hI]; exact stays_isL st0 b1 m G
    have hfin : Hid (∀ w1, I w1 → Below w.heap.size w w1) := by rw [hI]; exact fun w1 q => q.1
    have hq1 : ∀ w1, I w1 → IsL w1 b1 m G := by rw [hI]; exact fun w1 q => q.2
    have FX := Lib.hid (fun w1 q => inv_fixed stI w1 q)
    have HF := Lib.hid (fun x y w1 q => inv_flows stI hq1 m8 x y w1 q)
    have HJ := Lib.hid (fun x y w1 q => inv_join stI hq1 m8 x y w1 q)
    have HM := Lib.hid (fun x y w1 q => inv_meet stI hq1 m8 x y w1 q)
    have J1 := Lib.hid g1
    clear hI i1 l1 k1 NN1 g1 stI hq1 st0
    go_wp2_with fail
    (with_reducible refine (FX.out w1 J1.out).mono ?_)
    rintro e w2 ⟨rfl, gs⟩
    go_wp2_with fail
    go_loopw [11, 12] (fun i _ wr => ∃ a : Nat, a ≤ m ∧ i = .int .i64 a ∧ I wr) (fun i _ _ => m - (intOf i).toNat)
    case atStart => exact ⟨0, by omega, rfl, gs⟩
    case round =>
      obtain ⟨a, ha, rfl, gr⟩ := hrel
      obtain ⟨wo, rfl⟩ : ∃ wo : World, wo = wr := ⟨_, rfl⟩
      clear gs
      by_cases hlt : a < m
      · have hai : (a : Int) < (m : Int) := by omega
        go_wp2
        go_loopw [12] (fun i wr => ∃ b : Nat, b ≤ m ∧ i = .int .i64 b ∧ I wr) (fun i _ => m - (intOf i).toNat)
        case atStart => exact ⟨0, by omega, rfl, gr⟩
        case round =>
          obtain ⟨b, hb, rfl, gr⟩ := hrel
          by_cases hlt2 : b < m
          · have hbi : (b : Int) < (m : Int) := by omega
            have X1 := Lib.hid (HJ.out a b)
            rw [L.jn_I hlt hlt2] at X1
            have X2 := Lib.hid (HF.out (jn m G a b : Nat) c)
            rw [L.flB_jn hlt hlt2] at X2
            have X3 := Lib.hid (HF.out a c)
            have X4 := Lib.hid (HF.out b c)
            have Y1 := Lib.hid (HM.out a b)
            rw [L.turned.jn_I hlt hlt2] at Y1
            have Y2 := Lib.hid (HF.out c (jn m (turn G) a b : Nat))
            rw [L.flB_mt hlt hlt2] at Y2
            have Y3 := Lib.hid (HF.out c a)
            have Y4 := Lib.hid (HF.out c b)
            generalize flB m G a c = x at *
            generalize flB m G b c = y at *
            generalize flB m G c a = z at *
            generalize flB m G c b = t at *
            generalize jn m G a b = J at *
            generalize jn m (turn G) a b = T at *
            rcases x <;> rcases y <;> rcases z <;> rcases t <;> simp only [Bool.and_true, Bool.and_false] at X2 Y2
            all_goals
              go_wp2_with (first
                | (go_at_call 16; (with_reducible refine (X1.out _ (by assumption)).mono ?_); rintro e w' ⟨rfl, gg⟩)
                | (go_at_call 14; (with_reducible refine (X2.out _ (by assumption)).mono ?_); rintro e w' ⟨rfl, gg⟩)
                | (go_at_call 14; (with_reducible refine (X3.out _ (by assumption)).mono ?_); rintro e w' ⟨rfl, gg⟩)
                | (go_at_call 14; (with_reducible refine (X4.out _ (by assumption)).mono ?_); rintro e w' ⟨rfl, gg⟩)
                | (go_at_call 18; (with_reducible refine (Y1.out _ (by assumption)).mono ?_); rintro e w' ⟨rfl, gg⟩)
                | (go_at_call 14; (with_reducible refine (Y2.out _ (by assumption)).mono ?_); rintro e w' ⟨rfl, gg⟩)
                | (go_at_call 14; (with_reducible refine (Y3.out _ (by assumption)).mono ?_); rintro e w' ⟨rfl, gg⟩)
                | (go_at_call 14; (with_reducible refine (Y4.out _ (by assumption)).mono ?_); rintro e w' ⟨rfl, gg⟩))
              first
                | exact ⟨⟨b + 1, by omega, by go_num, gg⟩, by simp [intOf]; omega⟩
                | (refine ⟨?_, by simp [intOf]; omega⟩; repeat apply Exists.intro; exact ⟨⟨b + 1, by omega, by go_num, gg⟩, rfl⟩)
          · have hbm : b = m := by omega
            subst hbm
            have hd1 : decide ((b : Int) < (b : Int)) = false := by simp
            go_wp2
            first
              | exact ⟨⟨a + 1, by omega, by go_num, gr⟩, by simp [intOf]; omega⟩
              | (refine ⟨?_, by simp [intOf]; omega⟩; repeat apply Exists.intro; exact ⟨⟨a + 1, by omega, by go_num, gr⟩, rfl⟩)
      · have ham : a = m := by omega
        subst ham
        have hd1 : decide ((a : Int) < (a : Int)) = false := by simp
        have hf := hfin.out _ gr
        go_wp2
        go_ret
        exact ⟨rfl, hf⟩
  · have N1 := inv_newNo (stays_lies st0 ao ps) n ao cap ps hl2 w ⟨Below.refl _ _, hP⟩ hP he
    have FX := Lib.hid (fun w1 q => inv_fixed (stays_lies st0 ao ps) w1 q)
    have R2 := Lib.hid (hR he)
    unfold RefNo at R2
    have hne : ((newE n ps) == 0) = false := by simpa using he
    have hne2 : ((newE n ps) != 0) = true := by simpa using he
    rw [← hM] at N1 R2 ⊢
    have NN1 := Lib.hid N1
    have FR : Hid (∀ w1, Below w.heap.size w w1 ∧ LiesP w1 ao ps → Calls Try.prog 11 #[.int .i64 n, .slice ao M cap] w1 fun e w' => ∃ v : Value, ∃ k : Int, e = .returned (.tuple #[v, .int .i64 k]) ∧ (k == 0) = false ∧ Below w.heap.size w w') :=
      fun w1 q => (R2.out w1 q.2).mono fun e w' ⟨v, k, h1, h2, h3⟩ => ⟨v, k, h1, h2, below_trans q.1 h3⟩
    clear N1 he hP hM R2 hR
    generalize newE n ps = d at *
    go_enter Try.func9, Try.ntmps9
    go_wp2_with fail
    (with_reducible refine NN1.out.mono ?_)
    rintro e w1 ⟨rfl, i1, k1⟩
    have I1 := Lib.hid i1
    clear i1 k1 NN1
    go_wp2_with fail
    (with_reducible refine (FX.out w1 I1.out).mono ?_)
    rintro e w2 ⟨rfl, i2⟩
    have I2 := Lib.hid i2
    clear i2 I1 FX
    go_wp2_with fail
    (with_reducible refine (FR.out w2 I2.out).mono ?_)
    rintro e w3 ⟨v, k, rfl, hk0, b3⟩
    have hk1 : (k != 0) = true := by simp only [bne, hk0]; rfl
    go_wp2_with fail
    go_ret
    exact ⟨rfl, b3⟩
end Go.Proofs.Ytbkpfiagoinoiaa
