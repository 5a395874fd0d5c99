/- IsaLists: what is listed of any program is what the document says. No conditions. -/
import Derived.Test.YtmclcobklcjmnaaDoorRdd
import Derived.Laws.Concat
import Derived.Test.YtmclcobklcjmnaaDoorDig
import Derived.Test.YtmclcobklcjmnaaDoorCards
import Derived.Test.YtmclcobklcjmnaaDoorTie
import Derived.Stop.LaidErr
import Derived.Lib.LaidTab
import Derived.ShutString
import Derived.SliceStrings
import Derived.Deep.DeepHandedRow
namespace Go.Proofs.YtmclcobklcjmnaaDoor
open Go.RowKit Go.Maps
set_option linter.unusedVariables false
set_option linter.unusedSimpArgs false

theorem str_app (a b : Bs) : str a ++ str b = str (a ++ b) := by
  apply ByteArray.ext
  apply Array.ext'
  simp [str]
theorem line_some {q : Bs} {i : In} (h : decS q = some i) : linS q = prnI i := by unfold linS; rw [h]
theorem line_none {q : Bs} (h : decS q = none) : linS q = wordL ++ Lib.decDigits (valB q) := by unfold linS; rw [h]
set_option maxRecDepth 100000 in
set_option maxHeartbeats 4000000 in
theorem rlist_any (s : ByteArray) (w : World) : Calls Tryd.prog 14 #[.string s] w fun e w' => e = .returned (.tuple #[.string (str (lisS s.data.toList)), .int .i64 (lisE s.size)]) ∧ Below w.heap.size w w' := by
  have hsz : s.data.toList.length = s.size := Array.length_toList
  unfold lisS lisE
  rw [hsz]
  obtain ⟨n, hn⟩ : ∃ n, n = s.size := ⟨_, rfl⟩
  have hns := hn.symm
  rw [← hn] at hsz ⊢
  by_cases big : 4096 < n
  · rw [if_pos big, if_pos big]
    have bigI : (4096 : Int) < (n : Int) := by omega
    clear hn hsz big
    go_enter Tryd.func14, Tryd.ntmps14
    go_wp2
    go_ret2
    exact ⟨rfl, Below.refl _ _⟩
  · rw [if_neg big, if_neg big]
    have smI : (n : Int) ≤ 4096 := by omega
    by_cases m4 : n % 4 = 0
    · rw [if_pos m4, if_pos m4]
      obtain ⟨K, hK⟩ : ∃ K, n = 4 * K := ⟨n / 4, by omega⟩
      obtain ⟨S, hS⟩ : ∃ S, S = s.data.toList := ⟨_, rfl⟩
      rw [← hS] at hsz ⊢
      have r4 : (n : Int) % 4 = 0 := by omega
      have HS := Lib.hid (And.intro hS (And.intro hsz hK))
      have KD := Lib.hid rdec_any
      have KT := Lib.hid rtext_any
      have KG := Lib.hid rdig_pos
      have HK := Lib.hid (show K ≤ 1024 by omega)
      clear hn big m4 hS hsz hK
      go_enter Tryd.func14, Tryd.ntmps14
      go_wp2
      go_loopw [4, 5] (fun t i wr => ∃ k : Nat, k ≤ K ∧ i = .int .i64 ((4 * k : Nat) : Int) ∧ t = .string (str (lisP (S.take (4 * k)))) ∧ Below w.heap.size w wr) (fun _ i _ => n + 4 - (intOf i).toNat)
      case atStart => exact ⟨0, Nat.zero_le _, rfl, rfl, Below.refl _ _⟩
      case round =>
        obtain ⟨k, hk, rfl, rfl, hb⟩ := hrel
        clear r4
        obtain ⟨J, hJ⟩ : ∃ J, J = 4 * k := ⟨_, rfl⟩
        rw [← hJ]
        have hKn := HS.out.2.2
        by_cases hlt : k < K
        · have hJn : (J : Int) < (n : Int) := by omega
          obtain ⟨J4, hJ4⟩ : ∃ J4, J4 = J + 4 := ⟨_, rfl⟩
          have w4 : IntKind.i64.wrap ((J : Int) + 4) = (J4 : Int) := by rw [IntWalk.i64_in _ (by omega)]; omega
          have j1 : (J4 : Int) ≤ (n : Int) := by omega
          have j2 : (J : Int) ≤ (J4 : Int) := by omega
          have j3 : J4 ≤ n := by omega
          have j4 : J ≤ J4 := by omega
          obtain ⟨Q, hQ⟩ : ∃ Q, s.extract J J4 = Q := ⟨_, rfl⟩
          obtain ⟨q, hq⟩ : ∃ q, q = (S.drop J).take 4 := ⟨_, rfl⟩
          have hQq : Q.data.toList = q := by
            rw [← hQ, hq, HS.out.1, ByteArray.data_extract, Array.toList_extract, List.extract_eq_take_drop, hJ4, show J + 4 - J = 4 by omega]
          have hq4 : q.length = 4 := by rw [hq, List.length_take, List.length_drop, HS.out.2.1]; omega
          have hQ4 : Q.size = 4 := by rw [← hq4, ← hQq]; exact Array.length_toList.symm
          obtain ⟨T, hT⟩ : ∃ T, T = lisP (S.take J) := ⟨_, rfl⟩
          have hTl : T.length ≤ 29 * 1024 := by
            rw [hT]
            have := lis_short k (S.take J) (by rw [List.length_take, HS.out.2.1]; omega)
            have := HK.out
            omega
          have hnext : lisP (S.take (4 * (k + 1))) = T ++ (linS q ++ [10]) := by
            rw [hT, ← lisP_snoc k (S.take J) q (by rw [List.length_take, HS.out.2.1]; omega) hq4, hq, show 4 * (k + 1) = J + 4 by omega, List.take_add]
          have kd := KD.out Q hQ4 wr
          rw [hQq] at kd
          rw [← hT]
          obtain ⟨TS, hTS⟩ : ∃ TS, TS = str T := ⟨_, rfl⟩
          rw [← hTS]
          have hTz : TS.size ≤ 29696 := by rw [hTS, str_size]; omega
          have HB := Lib.hid hb
          have HN := Lib.hid (And.intro hnext (And.intro hTS (And.intro hJ (And.intro hJ4 hlt))))
          have HQ := Lib.hid (And.intro hQq (And.intro hq4 (And.intro hq hT)))
          clear hb hnext hTS hTl hlt hT hq hQq hQ4 hq4 hk hJ hJ4 hKn
          cases hd : decS q with
          | some I =>
            have hok := (dec_some hd).1
            have hl := HN.out.1
            rw [line_some hd] at hl
            have kt := fun W => KT.out I hok W
            have hpl := prnI_len I hok
            have e1 : decV q = I := by unfold decV; rw [hd]
            have e2 : decE q = 0 := by unfold decE; rw [hd]
            rw [e1, e2] at kd
            obtain ⟨op, a, b, imm⟩ := I
            unfold inV at kd kt
            dsimp only at kd kt
            obtain ⟨PS, hPS⟩ : ∃ PS, PS = str (prnI ⟨op, a, b, imm⟩) := ⟨_, rfl⟩
            have hPz : PS.size ≤ 80 := by rw [hPS, str_size]; exact hpl
            rw [← hPS] at kt
            have hcat : TS ++ (PS ++ ByteArray.mk #[10]) = str (lisP (S.take (4 * (k + 1)))) := by
              rw [hl, HN.out.2.1, hPS, show ByteArray.mk #[10] = str [10] from rfl, str_app, str_app]
            have g1 : ¬ 9223372036854775807 < PS.size + (ByteArray.mk #[10]).size := by
              have : (ByteArray.mk #[10]).size = 1 := rfl
              omega
            have g2 : ¬ 9223372036854775807 < TS.size + (PS ++ ByteArray.mk #[10]).size := by
              rw [ByteArray.size_append]
              have : (ByteArray.mk #[10]).size = 1 := rfl
              omega
            have HCAT := Lib.hid hcat
            obtain ⟨PL, hPL⟩ : ∃ PL, PS ++ ByteArray.mk #[10] = PL := ⟨_, rfl⟩
            rw [hPL] at g2 hcat
            have HKT := Lib.hid kt
            clear hl hpl hPS hd hok e1 e2 hcat kt
            go_wp2_with (first
              | (go_at_call 35; (with_reducible refine kd.mono ?_); rintro e w2 ⟨rfl, hb2⟩; have HB2 := Lib.hid hb2; clear hb2)
              | (go_at_call 36; (with_reducible refine (HKT.out _).mono ?_); rintro e w3 ⟨rfl, hb3⟩; have HB3 := Lib.hid hb3; clear hb3))
            have hend : Hid (Below w.heap.size w w3) := Lib.hid (by
              have h1 := HB.out.trans (HB2.out.mono HB.out.size)
              exact (h1.alloc h1.size _).trans (HB3.out.mono (by have := h1.size; simp; omega)))
            have hc2 := HCAT.out
            rw [hPL] at hc2
            first
              | exact ⟨⟨k + 1, by have := HN.out.2.2.2.2; omega, by have := HN.out.2.2.1; have := HN.out.2.2.2.1; exact congrArg (Value.int .i64) (by omega), congrArg Value.string hc2, hend.out⟩, by have := HN.out.2.2.1; have := HN.out.2.2.2.1; simp [intOf]; omega⟩
              | (go_roundw
                 case rel => exact ⟨k + 1, by have := HN.out.2.2.2.2; omega, by have := HN.out.2.2.1; have := HN.out.2.2.2.1; exact congrArg (Value.int .i64) (by omega), congrArg Value.string hc2, hend.out⟩
                 case measure => have := HN.out.2.2.1; have := HN.out.2.2.2.1; simp [intOf]; omega)
          | none =>
            have hl := HN.out.1
            rw [line_none hd] at hl
            have e1 : decV q = zeroI := by unfold decV; rw [hd]
            have e2 : decE q = 91 := by unfold decE; rw [hd]
            rw [e1, e2] at kd
            have hvq : valB q < 4294967296 := by
              have := valB_lt q 4 (by rw [HQ.out.2.1]; omega)
              rwa [List.take_of_length_le (by rw [HQ.out.2.1]; omega)] at this
            have kt := fun W => KG.out (valB q) hvq W
            have hdl := dec_len100 (valB q) (by omega)
            obtain ⟨DS, hDS⟩ : ∃ DS, DS = str (Lib.decDigits (valB q)) := ⟨_, rfl⟩
            have hDz : DS.size ≤ 20 := by rw [hDS, str_size]; exact hdl
            rw [← hDS] at kt
            have hcat : TS ++ (ByteArray.mk #[119, 111, 114, 100, 32] ++ DS ++ ByteArray.mk #[10]) = str (lisP (S.take (4 * (k + 1)))) := by
              rw [hl, HN.out.2.1, hDS, show ByteArray.mk #[10] = str [10] from rfl, show ByteArray.mk #[119, 111, 114, 100, 32] = str wordL from rfl, str_app, str_app, str_app, List.append_assoc]
            have s1 : (ByteArray.mk #[10]).size = 1 := rfl
            have s5 : (ByteArray.mk #[119, 111, 114, 100, 32]).size = 5 := rfl
            obtain ⟨P1, hP1⟩ : ∃ P1, ByteArray.mk #[119, 111, 114, 100, 32] ++ DS = P1 := ⟨_, rfl⟩
            have z1 : P1.size ≤ 25 := by rw [← hP1, ByteArray.size_append]; omega
            have g1 : ¬ 9223372036854775807 < (ByteArray.mk #[119, 111, 114, 100, 32]).size + DS.size := by omega
            have g2 : ¬ 9223372036854775807 < P1.size + (ByteArray.mk #[10]).size := by omega
            obtain ⟨P2, hP2⟩ : ∃ P2, P1 ++ ByteArray.mk #[10] = P2 := ⟨_, rfl⟩
            have z2 : P2.size ≤ 26 := by rw [← hP2, ByteArray.size_append]; omega
            have g3 : ¬ 9223372036854775807 < TS.size + P2.size := by omega
            rw [hP1, hP2] at hcat
            have HCAT := Lib.hid hcat
            have HKT := Lib.hid kt
            have zI : inV zeroI = .agg #[.int .i64 0, .int .i64 0, .int .i64 0, .int .i64 0] := rfl
            rw [zI] at kd
            have s5b : (5 : Nat) + DS.size ≤ 25 := by omega
            clear hl hdl hDS hd e1 e2 hcat kt zI z1 z2 s1 s5 hvq
            go_wp2_with (go_at_call 35; (with_reducible refine kd.mono ?_); rintro e w2 ⟨rfl, hb2⟩; have HB2 := Lib.hid hb2; clear hb2)
            obtain ⟨W5, hW5⟩ : ∃ W5, W5 = w2.alloc (.cells #[.int .i64 0, .int .i64 0, .int .i64 0, .int .i64 0] 30) := ⟨_, rfl⟩
            have h5 : Below w.heap.size w W5 := by
              rw [hW5]
              have h1 := HB.out.trans (HB2.out.mono HB.out.size)
              exact h1.alloc h1.size _
            rw [← hW5]
            have H5 := Lib.hid h5
            clear h5 hW5
            generalize wr = wo at *
            go_loopw [8, 9] (fun v i wv => ∃ m : Nat, m ≤ 4 ∧ i = .int .i64 (m : Int) ∧ v = .int .i64 ((valB (q.take m) : Nat) : Int) ∧ wv = W5) (fun _ i _ => 4 - (intOf i).toNat)
            case atStart => exact ⟨0, Nat.zero_le _, rfl, rfl, rfl⟩
            case round =>
              obtain ⟨m, hm, rfl, rfl, rfl⟩ := hrel
              by_cases hm4 : m < 4
              · have hmI : (m : Int) < 4 := by omega
                have hJm : J + m < n := by have := HN.out.2.2.2.1; omega
                have a1 : IntKind.i64.wrap ((J : Int) + (m : Int)) = ((J + m : Nat) : Int) := by rw [IntWalk.i64_in _ (by omega)]; omega
                obtain ⟨bq, hbq⟩ : ∃ bq, bq = q.getD m 0 := ⟨_, rfl⟩
                have hby : s[J + m]'(by rw [hns]; exact hJm) = bq := by
                  have hlen : m < q.length := by rw [HQ.out.2.1]; exact hm4
                  rw [hbq, List.getD_eq_getElem?_getD, List.getElem?_eq_getElem hlen]
                  have hq := HQ.out.2.2.1
                  have hS := HS.out.1
                  subst hq
                  subst hS
                  simp [ByteArray.getElem_eq_getElem_data]
                have hstep : valB (q.take (m + 1)) = 256 * valB (q.take m) + bq.toNat := by
                  rw [List.take_add_one, List.getElem?_eq_getElem (by rw [HQ.out.2.1]; exact hm4)]
                  rw [hbq, List.getD_eq_getElem?_getD, List.getElem?_eq_getElem (by rw [HQ.out.2.1]; exact hm4)]
                  exact valB_snoc _ _
                have hv := valB_lt q m (by rw [HQ.out.2.1]; omega)
                obtain ⟨Vm, hVm⟩ : ∃ Vm, Vm = valB (q.take m) := ⟨_, rfl⟩
                rw [← hVm] at hstep hv ⊢
                have hVb : Vm < 16777216 := by
                  refine Nat.lt_of_lt_of_le hv ?_
                  have : m = 0 ∨ m = 1 ∨ m = 2 ∨ m = 3 := by omega
                  rcases this with rfl | rfl | rfl | rfl <;> decide
                have hb8 : bq.toNat < 256 := bq.toNat_lt
                have HST := Lib.hid (And.intro hstep hm4)
                obtain ⟨L, hL⟩ : ∃ L, L = J + m := ⟨_, rfl⟩
                have a2 : IntKind.i64.wrap ((J : Int) + (m : Int)) = (L : Int) := by rw [a1, hL]
                have hL1 : L < n := by omega
                have hL2 : (L : Int) < (n : Int) := by omega
                have hby2 : s[L]'(by rw [hns]; exact hL1) = bq := by subst hL; exact hby
                have w1' : IntKind.i64.wrap (256 * (Vm : Int)) = 256 * (Vm : Int) := IntWalk.i64_in _ (by omega)
                have w2' : IntKind.i64.wrap (256 * (Vm : Int) + (bq.toNat : Int)) = 256 * (Vm : Int) + (bq.toNat : Int) := IntWalk.i64_in _ (by omega)
                have w3' : IntKind.i64.wrap (bq.toNat : Int) = (bq.toNat : Int) := IntWalk.i64_in _ (by omega)
                clear a1 hby hbq hVm hv hstep hL hJm hm hm4
                go_wp2
                refine ⟨⟨m + 1, by have := HST.out.2; omega, rfl, ?_, trivial⟩, by have := HST.out.2; simp [intOf]; omega⟩
                rw [HST.out.1]
                exact congrArg (Value.int .i64) (by omega)
              · obtain rfl : m = 4 := by omega
                have hfull : valB (q.take 4) = valB q := by rw [List.take_of_length_le (by rw [HQ.out.2.1]; omega)]
                rw [hfull]
                obtain ⟨VQ, hVQ⟩ : ∃ VQ, VQ = valB q := ⟨_, rfl⟩
                rw [← hVQ] at HKT ⊢
                clear hfull hVQ hm hm4
                go_wp2_with (go_at_call 37; (with_reducible refine (HKT.out _).mono ?_); rintro e w6 ⟨rfl, hb6⟩; have HB6 := Lib.hid hb6; clear hb6)
                have hend : Hid (Below w.heap.size w w6) := Lib.hid (H5.out.trans (HB6.out.mono H5.out.size))
                have hc2 := HCAT.out
                first
                  | exact ⟨⟨k + 1, by have := HN.out.2.2.2.2; omega, by have := HN.out.2.2.1; have := HN.out.2.2.2.1; exact congrArg (Value.int .i64) (by omega), congrArg Value.string hc2, hend.out⟩, by have := HN.out.2.2.1; have := HN.out.2.2.2.1; simp [intOf]; omega⟩
                  | (go_roundw
                     case rel => exact ⟨k + 1, by have := HN.out.2.2.2.2; omega, by have := HN.out.2.2.1; have := HN.out.2.2.2.1; exact congrArg (Value.int .i64) (by omega), congrArg Value.string hc2, hend.out⟩
                     case measure => have := HN.out.2.2.1; have := HN.out.2.2.2.1; simp [intOf]; omega)
        · obtain rfl : k = K := by omega
          have hJn : ¬ (J : Int) < (n : Int) := by omega
          have hfull : lisP (S.take J) = lisP S := by rw [List.take_of_length_le (by rw [HS.out.2.1]; omega)]
          rw [hfull]
          have HB := Lib.hid hb
          clear hfull hb hJ hKn hk hlt
          go_wp2
          go_ret2
          exact ⟨rfl, HB.out⟩
    · rw [if_neg m4, if_neg m4]
      have hr : ((n : Int).tmod 4 != 0) = true := by rw [Int.tmod_eq_emod_of_nonneg (by omega)]; simp; omega
      have hr2 : ((n : Int) % 4 != 0) = true := by simp; omega
      have hr3 : ¬ (n : Int) % 4 = 0 := by omega
      clear hn hsz big m4
      go_enter Tryd.func14, Tryd.ntmps14
      go_wp2
      go_ret2
      exact ⟨rfl, Below.refl _ _⟩
end Go.Proofs.YtmclcobklcjmnaaDoor

namespace Go.Proofs.YtmclcobklcjmnaaDoor
open Go.RowKit Go.Maps
set_option linter.unusedVariables false
set_option linter.unusedSimpArgs false

set_option maxRecDepth 20000 in
set_option maxHeartbeats 4000000 in
theorem lists_law (s : ByteArray) (w : World) (hL : LaidV w) : Calls Tryd.prog 4 #[.string s] w fun e w' => e = .returned (.bool true) ∧ Below w.heap.size w w' := by
  have KA := list_any s w hL
  have KB := Lib.hid (rlist_any s)
  have KF := Lib.hid (fun W hW => fixed_any W hW)
  have HL := Lib.hid hL
  obtain ⟨T, hT⟩ : ∃ T, T = str (lisS s.data.toList) := ⟨_, rfl⟩
  obtain ⟨E, hE⟩ : ∃ E, E = lisE s.size := ⟨_, rfl⟩
  rw [← hT, ← hE] at KA KB
  clear hT hE hL
  go_enter Tryd.func4, Tryd.ntmps4
  go_wp2_with (first
    | (go_at_call 13; (with_reducible refine KA.mono ?_); rintro e w1 ⟨rfl, hb1⟩; have H1 := Lib.hid hb1; clear hb1)
    | (go_at_call 14; (with_reducible refine (KB.out _).mono ?_); rintro e w2 ⟨rfl, hb2⟩; have H2 := Lib.hid (H1.out.trans (hb2.mono H1.out.size)); clear hb2)
    | (go_at_call 12; (with_reducible refine (KF.out _ (HL.out.below H2.out)).mono ?_); rintro e w3 ⟨rfl, hb3⟩; have H3 := Lib.hid (H2.out.trans (hb3.mono H2.out.size)); clear hb3))
  go_ret
  exact ⟨by simp, H3.out⟩
end Go.Proofs.YtmclcobklcjmnaaDoor

namespace Go.Proofs.YtmclcobklcjmnaaDoor
open Go.ChangeShapes Go.WideShapes Go.ChangeAt Go.RowKit
set_option linter.unusedVariables false

theorem own : ownKnob Tryd.prog.godebug = none := by kernel_rfl
theorem laidOut : laidOutB Tryd.prog = true := by kernel_rfl
theorem gSynT : (Tryd.prog.globals[2]?).map (·.type) = some 69 := by kernel_rfl
theorem gRngT : (Tryd.prog.globals[3]?).map (·.type) = some 69 := by kernel_rfl
theorem gPowT : (Tryd.prog.globals[1]?).map (·.type) = some 125 := by kernel_rfl
theorem cells146 : Tryd.prog.cellsOf 146 = 1 := by kernel_rfl
theorem cells9' : Tryd.prog.cellsOf 9 = 1 := by kernel_rfl
theorem star : "*" ++ "errors.errorString" = "*errors.errorString" := by decide
theorem row144 (u : TypeId) (h : Tryd.prog.typeName? 3 u = some "*errors.errorString") : u = 144 :=
  typeName_ptr_named (nm := "errors.errorString") (by rw [star]; kernel_rfl) (by kernel_rfl) (by decide) u (by rw [star]; exact h)
/-- what the rows list -/
def laid5 : List (String × DataW Unit) := [("math/bits.deBruijn32tab", Rows.laid_math_bits_deBruijn32tab), ("math/bits.deBruijn64tab", Rows.laid_math_bits_deBruijn64tab), ("internal/strconv.uint64pow10", Rows.laid_internal_strconv_uint64pow10), ("strconv.ErrRange", Rows.laid_strconv_ErrRange), ("strconv.ErrSyntax", Rows.laid_strconv_ErrSyntax)]
theorem pow_laid : (Rows.laid_internal_strconv_uint64pow10 : DataW Unit) = Lib.tabData .u64 Lib.pow10Tab := by kernel_rfl
set_option maxRecDepth 100000 in
theorem laidV_of {W : World} (h : laidMet Tryd.prog laid5 W) : LaidV W := by
  have h2 := h.tail.tail
  have h3 := h2.tail
  obtain ⟨a0, s0, hv0, -, -, -⟩ := laid_sentinel h3 gRng gRngT Tryd.underlying69 row144 Tryd.underlying144 Tryd.underlying146 rfl rfl Tryd.underlying9 cells146 cells9'
  obtain ⟨a1, s1, hv1, -, -, -⟩ := laid_sentinel h3.tail gSyn gSynT Tryd.underlying69 row144 Tryd.underlying144 Tryd.underlying146 rfl rfl Tryd.underlying9 cells146 cells9'
  rw [pow_laid] at h2
  exact ⟨Lib.tabIs_of_head gPow gPowT Tryd.underlying125 Tryd.underlying95 (by kernel_rfl) (by kernel_rfl) h2, ⟨_, _, hv1⟩, ⟨_, _, hv0⟩⟩
def lay (C : Array Value) : Obj → Obj
  | .cells _ t frozen => .cells C t frozen
  | o => o
abbrev synS : ByteArray := { data := #[105, 110, 118, 97, 108, 105, 100, 32, 115, 121, 110, 116, 97, 120] }
abbrev rngS : ByteArray := { data := #[118, 97, 108, 117, 101, 32, 111, 117, 116, 32, 111, 102, 32, 114, 97, 110, 103, 101] }
noncomputable def low : Nat := (World.holding Tryd.prog default ⟨#[], #[], []⟩).heap.size
/-- a world in which the listed variables lie as start-up lays them -/
noncomputable def laidWorld (os : Os) : World :=
  let w0 := World.holding Tryd.prog os ⟨#[.cells #[.string synS] 146, .cells #[.string rngS] 146], #[], []⟩
  { w0 with heap := ((((w0.heap.modify 1 (lay #[.int .u64 1, .int .u64 10, .int .u64 100, .int .u64 1000, .int .u64 10000, .int .u64 100000, .int .u64 1000000, .int .u64 10000000, .int .u64 100000000, .int .u64 1000000000, .int .u64 10000000000, .int .u64 100000000000, .int .u64 1000000000000, .int .u64 10000000000000, .int .u64 100000000000000, .int .u64 1000000000000000, .int .u64 10000000000000000, .int .u64 100000000000000000, .int .u64 1000000000000000000, .int .u64 10000000000000000000])).modify 2 (lay #[.iface 144 (.pointer (some ⟨low, 0, none⟩))])).modify 3 (lay #[.iface 144 (.pointer (some ⟨low + 1, 0, none⟩))])).modify 4 (lay #[.int .u8 0, .int .u8 1, .int .u8 28, .int .u8 2, .int .u8 29, .int .u8 14, .int .u8 24, .int .u8 3, .int .u8 30, .int .u8 22, .int .u8 20, .int .u8 15, .int .u8 25, .int .u8 17, .int .u8 4, .int .u8 8, .int .u8 31, .int .u8 27, .int .u8 13, .int .u8 23, .int .u8 21, .int .u8 19, .int .u8 16, .int .u8 7, .int .u8 26, .int .u8 12, .int .u8 18, .int .u8 6, .int .u8 11, .int .u8 5, .int .u8 10, .int .u8 9])).modify 5 (lay #[.int .u8 0, .int .u8 1, .int .u8 56, .int .u8 2, .int .u8 57, .int .u8 49, .int .u8 28, .int .u8 3, .int .u8 61, .int .u8 58, .int .u8 42, .int .u8 50, .int .u8 38, .int .u8 29, .int .u8 17, .int .u8 4, .int .u8 62, .int .u8 47, .int .u8 59, .int .u8 36, .int .u8 45, .int .u8 43, .int .u8 51, .int .u8 22, .int .u8 53, .int .u8 39, .int .u8 33, .int .u8 30, .int .u8 24, .int .u8 18, .int .u8 12, .int .u8 5, .int .u8 63, .int .u8 55, .int .u8 48, .int .u8 27, .int .u8 60, .int .u8 41, .int .u8 37, .int .u8 16, .int .u8 46, .int .u8 35, .int .u8 44, .int .u8 21, .int .u8 52, .int .u8 32, .int .u8 23, .int .u8 11, .int .u8 54, .int .u8 26, .int .u8 40, .int .u8 15, .int .u8 34, .int .u8 20, .int .u8 31, .int .u8 10, .int .u8 25, .int .u8 14, .int .u8 19, .int .u8 9, .int .u8 13, .int .u8 8, .int .u8 7, .int .u8 6]) }
theorem laid_run (os : Os) (args : Array Value) : (DataW.laidRun Tryd.prog ((laidWorld os).forCall (fun _ _ => 0) ⟨#[], args, []⟩).memory 8 (laid5.map (·.1))).map (·.1) = some laid5 := by kernel_rfl
theorem laid_met (os : Os) (args : Array Value) : laidMet Tryd.prog laid5 ((laidWorld os).forCall (fun _ _ => 0) ⟨#[], args, []⟩).memory :=
  laidMet_of_run' 8 (laid_run os args) (by kernel_rfl)
end Go.Proofs.YtmclcobklcjmnaaDoor

namespace Go.Proofs.YtmclcobklcjmnaaDoor
open Go.ChangeShapes Go.WideShapes Go.ChangeAt Go.RowKit
open Go.ChangeMaps (open_string shut_string)
set_option linter.unusedVariables false
namespace IsaLists
set_option maxRecDepth 100000 in
theorem contract (H : Type) (enc : TypeId × Value → H) (W : World) (base : Nat) (args : Array Value) (ds gs : List (DataW H)) (before : List MemPlace)
    (hval : ∀ (j : Nat) t v, Tryd.f4.params[j]? = some t → args[j]? = some v → Value.okWide Tryd.prog W .any base t v)
    (hW : DataW.Whole enc Tryd.prog Tryd.f4.params.toList Rows.isaListsSpec.vars false W args.toList ds gs before)
    (hsz0 : (DataW.weightsEach Tryd.prog (Tryd.f4.params.toList ++ Rows.isaListsSpec.plain.varTypes Tryd.prog) (ds ++ gs)).all (· ≤ reachBytes) = true) (hL : laidMet Tryd.prog Rows.isaListsRow.laid W) :
    Calls Tryd.prog 4 args W fun e W' => ∃ v, e = .returned v ∧ Rows.isaListsSpec.post enc Tryd.prog Tryd.f4 false true false false W args v W' := by
  have hsz := hsz0
  clear hsz0
  have hW' := hW
  obtain ⟨p, q, hA0, hV, rfl, hfz, hnd⟩ := hW
  have hA : DataW.TrodAll enc Tryd.prog W 0 (fun _ => true) true Tryd.f4.params.toList args.toList ds p := hA0
  rw [Tryd.params4] at hA hval hsz
  obtain ⟨v0, vs0, d0, ds0, p0, q0, hargs, rfl, rfl, h0, r0⟩ := trodAll_cons hA
  obtain ⟨rfl, rfl, rfl⟩ := trodAll_nil r0
  obtain rfl : args = #[v0] := by cases args; simp_all
  obtain ⟨rfl, rfl⟩ := trodVars_none hV
  obtain ⟨a0, rfl, rfl, rfl, w0⟩ := open_string Tryd.underlying9 (hval 0 9 v0 rfl rfl) h0
  have z0 : a0.size ≤ 140737488351232 := by simpa [reachBytes] using sized_string hsz (j := 0) (t := 9) rfl rfl
  clear hA0
  simp only [List.append_nil] at hW'
  refine (lists_law a0 W (laidV_of hL)).mono fun e W' ⟨he, bel⟩ => ?_
  subst he
  exact ⟨_, rfl, _, _, _, [], _, [], hW', trodAll_mk1 (shut_bool Tryd.underlying4 _), (trodAll_cons_mk (shut_string Tryd.underlying9 w0) trodAll_mk0), rfl, bel.frame _, fun h => by cases h⟩
theorem reads (os : Os) {H : Type} (enc : TypeId × Value → H) : ∃ places, DataW.whole enc Tryd.prog ((laidWorld os).forCall (fun _ _ => 0) ⟨#[], #[.string ByteArray.empty], []⟩).memory Tryd.f4.params.toList Rows.isaListsSpec.vars false (#[.string ByteArray.empty] : Array Value).toList 8 = some ([.lit (.string [])], [], places) :=
  ⟨[], by kernel_rfl⟩
set_option maxRecDepth 100000 in
theorem lifted (os : Os) (started : os.Started) (H : Type) (enc : TypeId × Value → H) (F : Stop.Interp) :
    ReturnsInHanded {} Tryd.checked os 4 .any ((OpenSpec.ofChange Rows.isaListsSpec).preRow enc Tryd.prog Tryd.f4 Rows.isaListsRow.domain false Rows.isaListsRow.laid) (((OpenSpec.ofChange Rows.isaListsSpec).at F).post enc Tryd.prog Tryd.f4 false true false false) := by
  obtain ⟨places, hx⟩ := reads os enc
  refine returnsInHanded_of_row (C := Tryd.checked) (s := OpenSpec.ofChange Rows.isaListsSpec) own started (by kernel_rfl) Tryd.func4
    (witness_row_at (enc := enc) (C := Tryd.checked) false (laidWorld os) #[.string ByteArray.empty] rfl (by kernel_rfl) (by kernel_rfl) (by kernel_rfl)
      (OpenSpec.preRow_of_cond 8 hx (by kernel_rfl) (fun k hk => by cases hk) (by kernel_rfl) (laid_met os _))) ?_
  intro W base args ds gs before hval hW _ _ hsz hL _ _
  exact contract H enc W base args ds gs before hval hW hsz hL
theorem said : Rows.IsaListsSaid :=
  OpenClaim.holds_of_cond 4 Tryd.f4 rfl rfl rfl rfl rfl rfl rfl ⟨rfl, rfl, rfl, rfl, rfl⟩ rfl rfl rfl rfl rfl (by kernel_rfl) Tryd.func4 (by kernel_rfl)
    (of_decide_eq_true (by kernel_rfl)) (by unfold Func.isWrapper; first | (rw [if_pos (by decide +kernel)]; kernel_rfl) | (rw [if_neg (by decide +kernel)]; exact ⟨rfl, rfl⟩))
    (fun os started H enc _ F => by rw [OpenClaim.pre_eq_preRow]; exact lifted os started H enc F)
theorem plain (f : FuncId) (fn : Func) (hf : Tryd.pinned.checked.prog.funcNamed "castellan/castellanlaw09.IsaLists" = some f) (hfn : Tryd.pinned.checked.prog.funcs[f]? = some fn) :
    true = Tryd.pinned.checked.prog.looks [] ∧ ∀ (j : Nat) t, fn.params[j]? = some t → Tryd.pinned.checked.prog.wantsStandIn t = false := by
  obtain rfl : f = 4 := Option.some.inj ((show Tryd.prog.funcNamed "castellan/castellanlaw09.IsaLists" = some 4 by kernel_rfl).symm.trans hf) |>.symm
  obtain rfl : fn = Tryd.f4 := (Option.some.inj (Tryd.func4.symm.trans hfn)).symm
  refine ⟨by kernel_rfl, fun j t ht => ?_⟩
  rw [Tryd.params4] at ht
  have hm := Array.mem_of_getElem? ht
  simp at hm
  subst hm
  exact (show Tryd.prog.wantsStandIn 9 = false by kernel_rfl)
end IsaLists
/-- THE STATEMENT -/
theorem isaLists_card : Rows.IsaListsCardSaid :=
  Claim7.holds_tied_plain_at .later [] _ _ _ _ IsaLists.said (fun _ h => by cases h) (by kernel_rfl) (fun _ h => by cases h) isaLists_row_tie rfl ⟨rfl, rfl⟩ (by kernel_rfl) rfl IsaLists.plain (by kernel_rfl)
end Go.Proofs.YtmclcobklcjmnaaDoor

