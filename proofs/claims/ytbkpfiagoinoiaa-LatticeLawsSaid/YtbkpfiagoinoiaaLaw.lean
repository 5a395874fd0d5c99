/- Join and meet are those of a lattice: the walk. Conditions: there are at most as many pairs as a machine holds. -/
import Derived.Test.YtbkpfiagoinoiaaGod
namespace Go.Proofs.Ytbkpfiagoinoiaa
open Go.RowKit
set_option linter.unusedVariables false

/-- the inner law's truths, at three levels -/
structure Tri (n : Nat) (G : Flw) (a c d J M X Y U V : Nat) : Prop where
  x : jn n G J d = X
  y : jn n G c d = Y
  z : jn n G a Y = X
  yl : Y < n
  u : jn n (turn G) M d = U
  v : jn n (turn G) c d = V
  t : jn n (turn G) a V = U
  vl : V < n
theorem tri {n : Nat} {G : Flw} (L : Lat n G) {a c d J M : Nat} (ha : a < n) (hc : c < n) (hd : d < n) (hJ : jn n G a c = J) (hM : jn n (turn G) a c = M) : ∃ X Y U V, Tri n G a c d J M X Y U V :=
  ⟨_, _, _, _, rfl, rfl, by rw [← hJ]; exact L.assoc ha hc hd, L.jn_lt hc hd, rfl, rfl, by rw [← hM]; exact L.turned.assoc ha hc hd, L.turned.jn_lt hc hd⟩

set_option maxRecDepth 100000 in
set_option maxHeartbeats 8000000 in
theorem laws_walk (n : Int) (ao : Option Addr) (cap : Nat) (ps : List (Int × Int)) (w : World) (hl : ps.length ≤ 140737488355328) (hP : LiesP w ao ps) :
    Calls Try.prog 4 #[.int .i64 n, .slice ao ps.length cap] w fun e w' => e = .returned (.bool true) ∧ Below w.heap.size w w' := by
  have N := Lib.hid (new_any n ao cap ps w hl hP)
  have FX := Lib.hid (fun w => fixed_any w)
  by_cases he : newE n ps = 0
  · have hok := newE_ok he
    have L := new_lat he
    obtain ⟨m, rfl⟩ : ∃ m : Nat, n = (m : Int) := ⟨n.toNat, by omega⟩
    rw [Int.toNat_natCast] at L
    have NN : Hid (Calls Try.prog 10 #[.int .i64 (m : Int), .slice ao ps.length cap] w fun e w' => ∃ b, e = .returned (.tuple #[.pointer (some ⟨b, 0, none⟩), .int .i64 0]) ∧ Good w b m (newG ps) w') :=
      N.out.mono fun e w' hp => by
        obtain ⟨hb, h1 | h1⟩ := hp
        · obtain ⟨_, b, _, q, hi⟩ := h1
          exact ⟨b, q, hb, by simpa using hi⟩
        · exact absurd he h1.1
    have m8 := L.n8
    have m1 := L.n1
    generalize newG ps = G at *
    obtain ⟨tp, htp, htl, hta⟩ := L.topI_top m (Nat.le_refl _) m1
    obtain ⟨bt, hbt, hbl, hba⟩ := L.turned.topI_top m (Nat.le_refl _) m1
    clear N he hok hP hl
    generalize ps.length = len at *
    go_enter Try.func4, Try.ntmps4
    go_wp2_with fail
    (with_reducible refine NN.out.mono ?_)
    rintro e w1 ⟨b, rfl, g1⟩
    have HT : Hid (∀ w1, Good w b m G w1 → Calls Try.prog 26 #[.pointer (some ⟨b, 0, none⟩)] w1 fun e w' => e = .returned (.int .i64 (tp : Int)) ∧ Good w b m G w') := fun w1 q => by
      have := god_top (w := w) (b := b) (G := G) m8 w1 q; rwa [htp] at this
    have HB : Hid (∀ w1, Good w b m G w1 → Calls Try.prog 28 #[.pointer (some ⟨b, 0, none⟩)] w1 fun e w' => e = .returned (.int .i64 (bt : Int)) ∧ Good w b m G w') := fun w1 q => by
      have := god_bottom (w := w) (b := b) (G := G) m8 w1 q; rwa [hbt] at this
    have HF : Hid (∀ x y : Nat, x < m → y < m → ∀ w1, Good w b m G w1 → Calls Try.prog 14 #[.pointer (some ⟨b, 0, none⟩), .int .i64 (x : Int), .int .i64 (y : Int)] w1 fun e w' => e = .returned (.bool (G x y)) ∧ Good w b m G w') := fun x y hx hy w1 q => god_flows m8 hx hy w1 q
    have HJ : Hid (∀ x y : Nat, x < m → y < m → ∀ w1, Good w b m G w1 → Calls Try.prog 16 #[.pointer (some ⟨b, 0, none⟩), .int .i64 (x : Int), .int .i64 (y : Int)] w1 fun e w' => e = .returned (.int .i64 (jn m G x y : Nat)) ∧ Good w b m G w') := fun x y hx hy w1 q => god_join L hx hy w1 q
    have HM : Hid (∀ x y : Nat, x < m → y < m → ∀ w1, Good w b m G w1 → Calls Try.prog 18 #[.pointer (some ⟨b, 0, none⟩), .int .i64 (x : Int), .int .i64 (y : Int)] w1 fun e w' => e = .returned (.int .i64 (jn m (turn G) x y : Nat)) ∧ Good w b m G w') := fun x y hx hy w1 q => god_meet L hx hy w1 q
    have g1' := Lib.hid g1
    go_wp2_with fail
    (with_reducible refine (FX.out _).mono ?_)
    rintro e w2 ⟨rfl, b2⟩
    have g2 := g1'.out.next b2
    clear b2 g1 g1' NN FX htp hbt
    have hGG : Hid (∀ w1, Good w b m G w1 → Below w.heap.size w w1) := fun w1 q => q.1
    generalize Good w b m G = GG at *
    go_wp2_with fail
    go_loopw [7, 8, 9, 10, 11] (fun i _ _ _ _ wr => ∃ a : Nat, a ≤ m ∧ i = .int .i64 a ∧ GG wr) (fun i _ _ _ _ _ => m - (intOf i).toNat)
    case atStart => exact ⟨0, by omega, rfl, g2⟩
    case round =>
      obtain ⟨a, ha, rfl, gr⟩ := hrel
      obtain ⟨wo, rfl⟩ : ∃ wo : World, wo = wr := ⟨_, rfl⟩
      clear g2
      by_cases hlt : a < m
      · have hai : (a : Int) < (m : Int) := by omega
        have ha8 : (a : Int) < 8 := by omega
        have F1 := Lib.hid (HF.out a a hlt hlt)
        rw [L.pre.refl a (by omega)] at F1
        have F2 := Lib.hid (HF.out a tp hlt htl)
        rw [hta a hlt] at F2
        have F3 := Lib.hid (HF.out bt a hbl hlt)
        rw [show G bt a = true from hba a hlt] at F3
        go_wp2_with (first
          | (go_at_call 14; (with_reducible refine (F1.out _ (by assumption)).mono ?_); rintro e w' ⟨rfl, gg⟩)
          | (go_at_call 26; (with_reducible refine (HT.out _ (by assumption)).mono ?_); rintro e w' ⟨rfl, gg⟩)
          | (go_at_call 14; (with_reducible refine (F2.out _ (by assumption)).mono ?_); rintro e w' ⟨rfl, gg⟩)
          | (go_at_call 28; (with_reducible refine (HB.out _ (by assumption)).mono ?_); rintro e w' ⟨rfl, gg⟩)
          | (go_at_call 14; (with_reducible refine (F3.out _ (by assumption)).mono ?_); rintro e w' ⟨rfl, gg⟩))
        have gs := Lib.hid gg
        clear F1 F2 F3 gr
        have gq := gs.out
        clear gg
        go_loopw [8, 9, 10, 11] (fun i _ _ _ wr => ∃ c : Nat, c ≤ m ∧ i = .int .i64 c ∧ GG wr) (fun i _ _ _ _ => m - (intOf i).toNat)
        case atStart => exact ⟨0, by omega, rfl, gq⟩
        case round =>
          obtain ⟨c, hc, rfl, gr⟩ := hrel
          obtain ⟨wo2, rfl⟩ : ∃ wo2 : World, wo2 = wr := ⟨_, rfl⟩
          clear gq gs
          by_cases hlt2 : c < m
          · have hci : (c : Int) < (m : Int) := by omega
            have hc8 : (c : Int) < 8 := by omega
            obtain ⟨J, hJ⟩ : ∃ J, J = jn m G a c := ⟨_, rfl⟩
            obtain ⟨M, hM⟩ : ∃ M, M = jn m (turn G) a c := ⟨_, rfl⟩
            have hJl : J < m := by rw [hJ]; exact L.jn_lt hlt hlt2
            have hMl : M < m := by rw [hM]; exact L.turned.jn_lt hlt hlt2
            have J1 := Lib.hid (HJ.out a c hlt hlt2)
            have M1 := Lib.hid (HM.out a c hlt hlt2)
            have J2 := Lib.hid (HJ.out c a hlt2 hlt)
            have M2 := Lib.hid (HM.out c a hlt2 hlt)
            rw [jn_comm m G c a] at J2
            rw [jn_comm m (turn G) c a] at M2
            have A1 := Lib.hid (HJ.out a M hlt hMl)
            have A2 := Lib.hid (HM.out a J hlt hJl)
            rw [show jn m G a M = a by rw [hM]; exact L.absorb hlt hlt2] at A1
            rw [show jn m (turn G) a J = a by rw [hJ]; exact L.turned.absorb hlt hlt2] at A2
            have F4 := Lib.hid (HF.out a c hlt hlt2)
            have F5 := Lib.hid (HF.out c a hlt2 hlt)
            have F6 := Lib.hid (HF.out a J hlt hJl)
            have F7 := Lib.hid (HF.out M c hMl hlt2)
            rw [show G a J = true by rw [hJ]; exact (L.jn_up hlt hlt2).1] at F6
            rw [show G M c = true by rw [hM]; exact (L.turned.jn_up hlt hlt2).2] at F7
            have fj := L.flows_jn hlt hlt2
            have fm := L.turned.flows_jn hlt2 hlt
            rw [jn_comm m (turn G) c a, ← hM] at fm
            rw [← hJ] at fj J1 J2
            rw [← hM] at M1 M2
            have tr := Lib.hid (fun d hd => tri L (d := d) hlt hlt2 hd hJ.symm hM.symm)
            have hanti := L.anti a c hlt hlt2
            have htrans := Lib.hid (fun d (hd : d < m) => L.pre.trans a c d (by omega) (by omega) (by omega))
            clear hJ hM
            have fm2 : G a c = true ↔ M = a := fm
            clear fm
            by_cases hac : G a c = true
            · have eJ := fj.1 hac
              have eM := fm2.1 hac
              rw [hac] at F4
              subst eJ eM
              by_cases hne : M = J
              · subst hne
                clear F5 fj fm2 hanti
                go_wp2_with (first
                  | (go_at_call 16; (with_reducible refine (J1.out _ (by assumption)).mono ?_); rintro e w' ⟨rfl, gg⟩)
                  | (go_at_call 18; (with_reducible refine (M1.out _ (by assumption)).mono ?_); rintro e w' ⟨rfl, gg⟩)
                  | (go_at_call 16; (with_reducible refine (J2.out _ (by assumption)).mono ?_); rintro e w' ⟨rfl, gg⟩)
                  | (go_at_call 18; (with_reducible refine (M2.out _ (by assumption)).mono ?_); rintro e w' ⟨rfl, gg⟩)
                  | (go_at_call 16; (with_reducible refine (A1.out _ (by assumption)).mono ?_); rintro e w' ⟨rfl, gg⟩)
                  | (go_at_call 18; (with_reducible refine (A2.out _ (by assumption)).mono ?_); rintro e w' ⟨rfl, gg⟩)
                  | (go_at_call 14; (with_reducible refine (F4.out _ (by assumption)).mono ?_); rintro e w' ⟨rfl, gg⟩)
                  | (go_at_call 14; (with_reducible refine (F6.out _ (by assumption)).mono ?_); rintro e w' ⟨rfl, gg⟩)
                  | (go_at_call 14; (with_reducible refine (F7.out _ (by assumption)).mono ?_); rintro e w' ⟨rfl, gg⟩))
                have gq := gg
                clear gr gg
                go_loopw [11] (fun i wr => ∃ d : Nat, d ≤ m ∧ i = .int .i64 d ∧ GG wr) (fun i _ => m - (intOf i).toNat)
                case atStart => exact ⟨0, by omega, rfl, gq⟩
                case round =>
                  obtain ⟨d, hd, rfl, gr⟩ := hrel
                  clear gq
                  by_cases hlt3 : d < m
                  · have hdi : (d : Int) < (m : Int) := by omega
                    have hd8 : (d : Int) < 8 := by omega
                    obtain ⟨X, Y, U, V, q⟩ := tr.out d hlt3
                    obtain rfl : Y = X := q.y.symm.trans q.x
                    obtain rfl : V = U := q.v.symm.trans q.u
                    have X1 := Lib.hid (HJ.out M d hMl hlt3)
                    rw [q.x] at X1
                    have Y1 := Lib.hid (HJ.out M d hMl hlt3)
                    rw [q.y] at Y1
                    have Z1 := Lib.hid (HJ.out M Y hMl q.yl)
                    rw [q.z] at Z1
                    have U1 := Lib.hid (HM.out M d hMl hlt3)
                    rw [q.u] at U1
                    have V1 := Lib.hid (HM.out M d hMl hlt3)
                    rw [q.v] at V1
                    have T1 := Lib.hid (HM.out M V hMl q.vl)
                    rw [q.t] at T1
                    have F8 := Lib.hid (HF.out M d hMl hlt3)
                    have F9 := Lib.hid (HF.out M d hMl hlt3)
                    have ht := htrans.out d hlt3 hac
                    cases hcd : G M d with
                    | false =>
                      rw [hcd] at F8
                      clear ht q hcd
                      go_wp2_with (first
                        | (go_at_call 16; (with_reducible refine (X1.out _ (by assumption)).mono ?_); rintro e w' ⟨rfl, gg⟩)
                        | (go_at_call 16; (with_reducible refine (Y1.out _ (by assumption)).mono ?_); rintro e w' ⟨rfl, gg⟩)
                        | (go_at_call 16; (with_reducible refine (Z1.out _ (by assumption)).mono ?_); rintro e w' ⟨rfl, gg⟩)
                        | (go_at_call 18; (with_reducible refine (U1.out _ (by assumption)).mono ?_); rintro e w' ⟨rfl, gg⟩)
                        | (go_at_call 18; (with_reducible refine (V1.out _ (by assumption)).mono ?_); rintro e w' ⟨rfl, gg⟩)
                        | (go_at_call 18; (with_reducible refine (T1.out _ (by assumption)).mono ?_); rintro e w' ⟨rfl, gg⟩)
                        | (go_at_call 14; (with_reducible refine (F4.out _ (by assumption)).mono ?_); rintro e w' ⟨rfl, gg⟩)
                        | (go_at_call 14; (with_reducible refine (F8.out _ (by assumption)).mono ?_); rintro e w' ⟨rfl, gg⟩))
                      first
                        | exact ⟨⟨d + 1, by omega, by go_num, gg⟩, by simp [intOf]; omega⟩
                        | (refine ⟨?_, by simp [intOf]; omega⟩; repeat apply Exists.intro; exact ⟨⟨d + 1, by omega, by go_num, gg⟩, rfl⟩)
                    | true =>
                      rw [hcd] at F8
                      rw [ht hcd] at F9
                      clear ht q hcd
                      go_wp2_with (first
                        | (go_at_call 16; (with_reducible refine (X1.out _ (by assumption)).mono ?_); rintro e w' ⟨rfl, gg⟩)
                        | (go_at_call 16; (with_reducible refine (Y1.out _ (by assumption)).mono ?_); rintro e w' ⟨rfl, gg⟩)
                        | (go_at_call 16; (with_reducible refine (Z1.out _ (by assumption)).mono ?_); rintro e w' ⟨rfl, gg⟩)
                        | (go_at_call 18; (with_reducible refine (U1.out _ (by assumption)).mono ?_); rintro e w' ⟨rfl, gg⟩)
                        | (go_at_call 18; (with_reducible refine (V1.out _ (by assumption)).mono ?_); rintro e w' ⟨rfl, gg⟩)
                        | (go_at_call 18; (with_reducible refine (T1.out _ (by assumption)).mono ?_); rintro e w' ⟨rfl, gg⟩)
                        | (go_at_call 14; (with_reducible refine (F4.out _ (by assumption)).mono ?_); rintro e w' ⟨rfl, gg⟩)
                        | (go_at_call 14; (with_reducible refine (F8.out _ (by assumption)).mono ?_); rintro e w' ⟨rfl, gg⟩)
                        | (go_at_call 14; (with_reducible refine (F9.out _ (by assumption)).mono ?_); rintro e w' ⟨rfl, gg⟩))
                      first
                        | exact ⟨⟨d + 1, by omega, by go_num, gg⟩, by simp [intOf]; omega⟩
                        | (refine ⟨?_, by simp [intOf]; omega⟩; repeat apply Exists.intro; exact ⟨⟨d + 1, by omega, by go_num, gg⟩, rfl⟩)
                  · have hdm : d = m := by omega
                    subst hdm
                    have hd1 : decide ((d : Int) < (d : Int)) = false := by simp
                    go_wp2
                    first
                      | exact ⟨⟨M + 1, by omega, by go_num, gr⟩, by simp [intOf]; omega⟩
                      | (refine ⟨?_, by simp [intOf]; omega⟩; repeat apply Exists.intro; exact ⟨⟨M + 1, by omega, by go_num, gr⟩, rfl⟩)
              · have hnd : ((M : Int) == (J : Int)) = false := by simp; omega
                have hfc : G J M = false := by
                  cases q : G J M with
                  | false => rfl
                  | true => exact absurd (hanti hac q) hne
                rw [hfc] at F5
                clear fj fm2 hanti
                go_wp2_with (first
                  | (go_at_call 16; (with_reducible refine (J1.out _ (by assumption)).mono ?_); rintro e w' ⟨rfl, gg⟩)
                  | (go_at_call 18; (with_reducible refine (M1.out _ (by assumption)).mono ?_); rintro e w' ⟨rfl, gg⟩)
                  | (go_at_call 16; (with_reducible refine (J2.out _ (by assumption)).mono ?_); rintro e w' ⟨rfl, gg⟩)
                  | (go_at_call 18; (with_reducible refine (M2.out _ (by assumption)).mono ?_); rintro e w' ⟨rfl, gg⟩)
                  | (go_at_call 16; (with_reducible refine (A1.out _ (by assumption)).mono ?_); rintro e w' ⟨rfl, gg⟩)
                  | (go_at_call 18; (with_reducible refine (A2.out _ (by assumption)).mono ?_); rintro e w' ⟨rfl, gg⟩)
                  | (go_at_call 14; (with_reducible refine (F4.out _ (by assumption)).mono ?_); rintro e w' ⟨rfl, gg⟩)
                  | (go_at_call 14; (with_reducible refine (F5.out _ (by assumption)).mono ?_); rintro e w' ⟨rfl, gg⟩)
                  | (go_at_call 14; (with_reducible refine (F6.out _ (by assumption)).mono ?_); rintro e w' ⟨rfl, gg⟩)
                  | (go_at_call 14; (with_reducible refine (F7.out _ (by assumption)).mono ?_); rintro e w' ⟨rfl, gg⟩))
                have gq := gg
                clear gr gg
                go_loopw [11] (fun i wr => ∃ d : Nat, d ≤ m ∧ i = .int .i64 d ∧ GG wr) (fun i _ => m - (intOf i).toNat)
                case atStart => exact ⟨0, by omega, rfl, gq⟩
                case round =>
                  obtain ⟨d, hd, rfl, gr⟩ := hrel
                  clear gq
                  by_cases hlt3 : d < m
                  · have hdi : (d : Int) < (m : Int) := by omega
                    have hd8 : (d : Int) < 8 := by omega
                    obtain ⟨X, Y, U, V, q⟩ := tr.out d hlt3
                    obtain rfl : Y = X := q.y.symm.trans q.x
                    have X1 := Lib.hid (HJ.out J d hJl hlt3)
                    rw [q.x] at X1
                    have Y1 := Lib.hid (HJ.out J d hJl hlt3)
                    rw [q.y] at Y1
                    have Z1 := Lib.hid (HJ.out M Y hMl q.yl)
                    rw [q.z] at Z1
                    have U1 := Lib.hid (HM.out M d hMl hlt3)
                    rw [q.u] at U1
                    have V1 := Lib.hid (HM.out J d hJl hlt3)
                    rw [q.v] at V1
                    have T1 := Lib.hid (HM.out M V hMl q.vl)
                    rw [q.t] at T1
                    have F8 := Lib.hid (HF.out J d hJl hlt3)
                    have F9 := Lib.hid (HF.out M d hMl hlt3)
                    have ht := htrans.out d hlt3 hac
                    cases hcd : G J d with
                    | false =>
                      rw [hcd] at F8
                      clear ht q hcd
                      go_wp2_with (first
                        | (go_at_call 16; (with_reducible refine (X1.out _ (by assumption)).mono ?_); rintro e w' ⟨rfl, gg⟩)
                        | (go_at_call 16; (with_reducible refine (Y1.out _ (by assumption)).mono ?_); rintro e w' ⟨rfl, gg⟩)
                        | (go_at_call 16; (with_reducible refine (Z1.out _ (by assumption)).mono ?_); rintro e w' ⟨rfl, gg⟩)
                        | (go_at_call 18; (with_reducible refine (U1.out _ (by assumption)).mono ?_); rintro e w' ⟨rfl, gg⟩)
                        | (go_at_call 18; (with_reducible refine (V1.out _ (by assumption)).mono ?_); rintro e w' ⟨rfl, gg⟩)
                        | (go_at_call 18; (with_reducible refine (T1.out _ (by assumption)).mono ?_); rintro e w' ⟨rfl, gg⟩)
                        | (go_at_call 14; (with_reducible refine (F4.out _ (by assumption)).mono ?_); rintro e w' ⟨rfl, gg⟩)
                        | (go_at_call 14; (with_reducible refine (F8.out _ (by assumption)).mono ?_); rintro e w' ⟨rfl, gg⟩))
                      first
                        | exact ⟨⟨d + 1, by omega, by go_num, gg⟩, by simp [intOf]; omega⟩
                        | (refine ⟨?_, by simp [intOf]; omega⟩; repeat apply Exists.intro; exact ⟨⟨d + 1, by omega, by go_num, gg⟩, rfl⟩)
                    | true =>
                      rw [hcd] at F8
                      rw [ht hcd] at F9
                      clear ht q hcd
                      go_wp2_with (first
                        | (go_at_call 16; (with_reducible refine (X1.out _ (by assumption)).mono ?_); rintro e w' ⟨rfl, gg⟩)
                        | (go_at_call 16; (with_reducible refine (Y1.out _ (by assumption)).mono ?_); rintro e w' ⟨rfl, gg⟩)
                        | (go_at_call 16; (with_reducible refine (Z1.out _ (by assumption)).mono ?_); rintro e w' ⟨rfl, gg⟩)
                        | (go_at_call 18; (with_reducible refine (U1.out _ (by assumption)).mono ?_); rintro e w' ⟨rfl, gg⟩)
                        | (go_at_call 18; (with_reducible refine (V1.out _ (by assumption)).mono ?_); rintro e w' ⟨rfl, gg⟩)
                        | (go_at_call 18; (with_reducible refine (T1.out _ (by assumption)).mono ?_); rintro e w' ⟨rfl, gg⟩)
                        | (go_at_call 14; (with_reducible refine (F4.out _ (by assumption)).mono ?_); rintro e w' ⟨rfl, gg⟩)
                        | (go_at_call 14; (with_reducible refine (F8.out _ (by assumption)).mono ?_); rintro e w' ⟨rfl, gg⟩)
                        | (go_at_call 14; (with_reducible refine (F9.out _ (by assumption)).mono ?_); rintro e w' ⟨rfl, gg⟩))
                      first
                        | exact ⟨⟨d + 1, by omega, by go_num, gg⟩, by simp [intOf]; omega⟩
                        | (refine ⟨?_, by simp [intOf]; omega⟩; repeat apply Exists.intro; exact ⟨⟨d + 1, by omega, by go_num, gg⟩, rfl⟩)
                  · have hdm : d = m := by omega
                    subst hdm
                    have hd1 : decide ((d : Int) < (d : Int)) = false := by simp
                    go_wp2
                    first
                      | exact ⟨⟨J + 1, by omega, by go_num, gr⟩, by simp [intOf]; omega⟩
                      | (refine ⟨?_, by simp [intOf]; omega⟩; repeat apply Exists.intro; exact ⟨⟨J + 1, by omega, by go_num, gr⟩, rfl⟩)
            · have hac' : G a c = false := by simpa using hac
              have eJ : ¬ J = c := fun q => hac (fj.2 q)
              have eM : ¬ M = a := fun q => hac (fm2.2 q)
              rw [hac'] at F4
              have dJ : ((J : Int) == (c : Int)) = false := by simp; omega
              have dM : ((M : Int) == (a : Int)) = false := by simp; omega
              have hne : ¬ a = c := fun q => by subst q; exact hac (L.pre.refl a (by omega))
              have hnd : ((a : Int) == (c : Int)) = false := by simp; omega
              clear fj fm2 hanti
              go_wp2_with (first
                | (go_at_call 16; (with_reducible refine (J1.out _ (by assumption)).mono ?_); rintro e w' ⟨rfl, gg⟩)
                | (go_at_call 18; (with_reducible refine (M1.out _ (by assumption)).mono ?_); rintro e w' ⟨rfl, gg⟩)
                | (go_at_call 16; (with_reducible refine (J2.out _ (by assumption)).mono ?_); rintro e w' ⟨rfl, gg⟩)
                | (go_at_call 18; (with_reducible refine (M2.out _ (by assumption)).mono ?_); rintro e w' ⟨rfl, gg⟩)
                | (go_at_call 16; (with_reducible refine (A1.out _ (by assumption)).mono ?_); rintro e w' ⟨rfl, gg⟩)
                | (go_at_call 18; (with_reducible refine (A2.out _ (by assumption)).mono ?_); rintro e w' ⟨rfl, gg⟩)
                | (go_at_call 14; (with_reducible refine (F4.out _ (by assumption)).mono ?_); rintro e w' ⟨rfl, gg⟩)
                | (go_at_call 14; (with_reducible refine (F6.out _ (by assumption)).mono ?_); rintro e w' ⟨rfl, gg⟩)
                | (go_at_call 14; (with_reducible refine (F7.out _ (by assumption)).mono ?_); rintro e w' ⟨rfl, gg⟩))
              have gq := gg
              clear gr gg
              go_loopw [11] (fun i wr => ∃ d : Nat, d ≤ m ∧ i = .int .i64 d ∧ GG wr) (fun i _ => m - (intOf i).toNat)
              case atStart => exact ⟨0, by omega, rfl, gq⟩
              case round =>
                obtain ⟨d, hd, rfl, gr⟩ := hrel
                clear gq
                by_cases hlt3 : d < m
                · have hdi : (d : Int) < (m : Int) := by omega
                  have hd8 : (d : Int) < 8 := by omega
                  obtain ⟨X, Y, U, V, q⟩ := tr.out d hlt3
                  have X1 := Lib.hid (HJ.out J d hJl hlt3)
                  rw [q.x] at X1
                  have Y1 := Lib.hid (HJ.out c d hlt2 hlt3)
                  rw [q.y] at Y1
                  have Z1 := Lib.hid (HJ.out a Y hlt q.yl)
                  rw [q.z] at Z1
                  have U1 := Lib.hid (HM.out M d hMl hlt3)
                  rw [q.u] at U1
                  have V1 := Lib.hid (HM.out c d hlt2 hlt3)
                  rw [q.v] at V1
                  have T1 := Lib.hid (HM.out a V hlt q.vl)
                  rw [q.t] at T1
                  clear q
                  go_wp2_with (first
                    | (go_at_call 16; (with_reducible refine (X1.out _ (by assumption)).mono ?_); rintro e w' ⟨rfl, gg⟩)
                    | (go_at_call 16; (with_reducible refine (Y1.out _ (by assumption)).mono ?_); rintro e w' ⟨rfl, gg⟩)
                    | (go_at_call 16; (with_reducible refine (Z1.out _ (by assumption)).mono ?_); rintro e w' ⟨rfl, gg⟩)
                    | (go_at_call 18; (with_reducible refine (U1.out _ (by assumption)).mono ?_); rintro e w' ⟨rfl, gg⟩)
                    | (go_at_call 18; (with_reducible refine (V1.out _ (by assumption)).mono ?_); rintro e w' ⟨rfl, gg⟩)
                    | (go_at_call 18; (with_reducible refine (T1.out _ (by assumption)).mono ?_); rintro e w' ⟨rfl, gg⟩)
                    | (go_at_call 14; (with_reducible refine (F4.out _ (by assumption)).mono ?_); rintro e w' ⟨rfl, gg⟩))
                  first
                    | exact ⟨⟨d + 1, by omega, by go_num, gg⟩, by simp [intOf]; omega⟩
                    | (refine ⟨?_, by simp [intOf]; omega⟩; repeat apply Exists.intro; exact ⟨⟨d + 1, by omega, by go_num, gg⟩, rfl⟩)
                · have hdm : d = m := by omega
                  subst hdm
                  have hd1 : decide ((d : Int) < (d : Int)) = false := by simp
                  go_wp2
                  first
                    | exact ⟨⟨c + 1, by omega, by go_num, gr⟩, by simp [intOf]; omega⟩
                    | (refine ⟨?_, by simp [intOf]; omega⟩; repeat apply Exists.intro; exact ⟨⟨c + 1, by omega, by go_num, gr⟩, rfl⟩)
          · have hcm : c = m := by omega
            subst hcm
            have hd1 : decide ((c : Int) < (c : Int)) = false := by simp
            go_wp2
            first
              | exact ⟨⟨a + 1, by omega, by go_num, gr⟩, by simp [intOf]; omega⟩
              | (refine ⟨?_, by simp [intOf]; omega⟩; repeat apply Exists.intro; exact ⟨⟨a + 1, by omega, by go_num, gr⟩, rfl⟩)
      · have ham : a = m := by omega
        subst ham
        have hfin := hGG.out _ gr
        go_wp2
        go_ret
        exact ⟨rfl, hfin⟩
  · have NN : Hid (Calls Try.prog 10 #[.int .i64 n, .slice ao ps.length cap] w fun e w' => e = .returned (.tuple #[.pointer none, .int .i64 (newE n ps)]) ∧ Below w.heap.size w w') :=
      N.out.mono fun e w' hp => by
        obtain ⟨hb, h1 | h1⟩ := hp
        · exact absurd h1.1 he
        · exact ⟨h1.2, hb⟩
    have hne : ((newE n ps) == 0) = false := by simpa using he
    have hne2 : ((newE n ps) != 0) = true := by simpa using he
    clear N he hP hl
    generalize newE n ps = c at *
    generalize ps.length = len at *
    go_enter Try.func4, Try.ntmps4
    go_wp2_with (first
      | (go_at_call 10; (with_reducible refine NN.out.mono ?_); rintro e w1 ⟨rfl, b1⟩)
      | (go_at_call 12; (with_reducible refine (FX.out _).mono ?_); rintro e w2 ⟨rfl, b2⟩))
    go_ret
    exact ⟨rfl, below_trans b1 b2⟩
end Go.Proofs.Ytbkpfiagoinoiaa
