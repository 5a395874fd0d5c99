/- A set is read of its bytes in any order, and with the sign as all the others: what the law's call returns. Conditions: the string is of this machine. -/
import Derived.Test.YthejkelnjimogaaDoorLst
import Derived.Test.YthejkelnjimogaaDoorFxd
import Derived.Test.YthejkelnjimogaaDoorSam
import Derived.Test.YthejkelnjimogaaDoorWit
import Derived.Test.YthejkelnjimogaaDoorByp
import Derived.StillTailTactics
import Derived.IntWalk
namespace Go.Proofs.YthejkelnjimogaaDoor
open Go.RowKit
set_option linter.unusedVariables false
set_option linter.unusedSimpArgs false

theorem cut_lo (q : Nat) (h : q < 16) : (⟨#[48, 49, 50, 51, 52, 53, 54, 55, 56, 57, 97, 98, 99, 100, 101, 102]⟩ : ByteArray).extract q (q + 1) = ⟨#[loC q]⟩ := by
  have : ∀ q < 16, (⟨#[48, 49, 50, 51, 52, 53, 54, 55, 56, 57, 97, 98, 99, 100, 101, 102]⟩ : ByteArray).extract q (q + 1) = ⟨#[loC q]⟩ := by decide +kernel
  exact this q h
theorem cut_up (q : Nat) (h : q < 16) : (⟨#[48, 49, 50, 51, 52, 53, 54, 55, 56, 57, 65, 66, 67, 68, 69, 70]⟩ : ByteArray).extract q (q + 1) = ⟨#[upC q]⟩ := by
  have : ∀ q < 16, (⟨#[48, 49, 50, 51, 52, 53, 54, 55, 56, 57, 65, 66, 67, 68, 69, 70]⟩ : ByteArray).extract q (q + 1) = ⟨#[upC q]⟩ := by decide +kernel
  exact this q h
theorem bits_andNot64 {a P : Nat} (ha : a < 18446744073709551616) (hP : P < 18446744073709551616) : bits .andNot .u64 ((18446744073709551615 - a : Nat) : Int) (P : Int) = ((18446744073709551615 - (a ||| P) : Nat) : Int) := by
  have hv : a ||| P < 18446744073709551616 := Nat.or_lt_two_pow (n := 64) ha hP
  have e : ((BitVec.ofInt 64 ((18446744073709551615 - a : Nat) : Int)) &&& ~~~ (BitVec.ofInt 64 (P : Int))).toNat = 18446744073709551615 - (a ||| P) := by
    have h1 : BitVec.ofInt 64 ((18446744073709551615 - a : Nat) : Int) = ~~~ (BitVec.ofNat 64 a) := by
      rw [BitVec.ofInt_natCast]
      apply BitVec.eq_of_toNat_eq
      rw [BitVec.toNat_not, BitVec.toNat_ofNat, BitVec.toNat_ofNat]
      omega
    have h2 : BitVec.ofInt 64 (P : Int) = BitVec.ofNat 64 P := BitVec.ofInt_natCast ..
    rw [h1, h2, ← BitVec.not_or, BitVec.toNat_not, BitVec.toNat_or, BitVec.toNat_ofNat, BitVec.toNat_ofNat, Nat.mod_eq_of_lt ha, Nat.mod_eq_of_lt hP]
  show IntKind.u64.wrap _ = _
  have e2 : (((BitVec.ofInt 64 ((18446744073709551615 - a : Nat) : Int)) &&& ~~~ (BitVec.ofInt 64 (P : Int))).toNat : Int) = ((18446744073709551615 - (a ||| P) : Nat) : Int) := by rw [e]
  refine (congrArg IntKind.u64.wrap e2).trans ?_
  unfold IntKind.wrap
  simp only [IntKind.bits, IntKind.signed]
  simp
  omega
theorem take_next (L : List Nat) (j : Nat) (h : j < L.length) : L.take (j + 1) = L.take j ++ [L[j]] := (List.take_append_getElem h).symm
theorem next1 (L : List Nat) (j : Nat) (h : j < L.length) : puts S4.zero (L.take (j + 1)) = (puts S4.zero (L.take j)).put L[j] := by rw [take_next L j h, puts_snoc]
theorem next2 (L : List Nat) (j : Nat) (h : j < L.length) : str (catE eA (L.take (j + 1))) = str (catE eA (L.take j)) ++ str (eA L[j]) := by
  rw [take_next L j h, catE_app, ← str_add]; rfl
theorem next3 (L : List Nat) (j : Nat) (h : j < L.length) : str (catE eB (L.take (j + 1)).reverse) = str (eB L[j]) ++ str (catE eB (L.take j).reverse) := by
  rw [take_next L j h, List.reverse_append, catE_app, ← str_add]; rfl
theorem sizeA (L : List Nat) (j : Nat) (h : ∀ c ∈ L, c ≤ 255) (few : L.length ≤ 30) : (str (catE eA (L.take j))).size ≤ 120 := by
  rw [str_size, catE_len Eb_A _ (fun c hc => h c (List.mem_of_mem_take hc)), List.length_take]; omega
theorem sizeB (L : List Nat) (j : Nat) (h : ∀ c ∈ L, c ≤ 255) (few : L.length ≤ 30) : (str (catE eB (L.take j).reverse)).size ≤ 120 := by
  rw [str_size, catE_len Eb_B _ (fun c hc => h c (List.mem_of_mem_take (List.mem_reverse.1 hc))), List.length_reverse, List.length_take]; omega
theorem bytes_at (z : ByteArray) : ∀ j (h : j < z.size) (h2 : j < (z.data.toList.map UInt8.toNat).length), (z[j]'h).toNat = (z.data.toList.map UInt8.toNat)[j] := fun j h h2 => by
  rw [List.getElem_map]
  rfl

attribute [local go_sem ↓] eql23_pre
attribute [local go_sem] eql23_run
set_option maxRecDepth 100000 in
set_option maxHeartbeats 16000000 in
theorem lists_walk (s : ByteArray) (w : World) (hz : s.size ≤ 140737488351232) :
    Calls Tryd.prog 8 #[.string s] w fun e w' => e = .returned (.bool true) ∧ Below w.heap.size w w' := by
  have FX := Lib.hid fixed_any
  by_cases h30 : (30 : Int) < (s.size : Int)
  · have hzs : (s.extract 0 30).size ≤ 30 := by rw [ByteArray.size_extract]; omega
    go_enter Tryd.func8, Tryd.ntmps8
    go_wp2_with (first
      | (go_at_call 11; (with_reducible refine (FX.out _).mono ?_); rintro e w1 ⟨rfl, g1⟩))
    generalize s.extract 0 30 = z at *
    obtain ⟨X, hX⟩ : ∃ X, X = w1.heap.size := ⟨_, rfl⟩
    have hwX : w.heap.size ≤ X := by rw [hX]; exact g1.size
    obtain ⟨L, hL⟩ : ∃ L : List Nat, L = z.data.toList.map UInt8.toNat := ⟨_, rfl⟩
    have hLn : L.length = z.size := by rw [hL, List.length_map, Array.length_toList]; rfl
    have HLB : Hid (∀ c ∈ L, c ≤ 255) := by
      rw [hL]; intro c hc
      obtain ⟨b, _, rfl⟩ := List.mem_map.1 hc
      have := b.toNat_lt; omega
    have HLG : Hid (∀ j (h : j < z.size) (h2 : j < L.length), (z[j]'h).toNat = L[j]) := by
      rw [hL]; exact bytes_at z
    rw [← hX]
    have HXW := Lib.hid hX
    clear hX hL
    go_loopw [5, 6, 7] (fun x5 x6 x7 wr => ∃ j : Nat, j ≤ L.length ∧ x5 = .string (str (catE eA (L.take j))) ∧ x6 = .string (str (catE eB (L.take j).reverse)) ∧ x7 = .int .i64 (j : Nat) ∧ wr.heap[X]? = some (.cells (puts S4.zero (L.take j)).cells 23 (0, 0)) ∧ wr.heap[X + 1]? = some (.cells (puts S4.zero (L.take j)).others.cells 23 (0, 0)) ∧ Below w.heap.size w wr) (fun _ _ x7 _ => 31 - (intOf x7).toNat)
    case atStart =>
      have hX := HXW.out
      refine ⟨0, by omega, rfl, rfl, rfl, ?_, ?_, ?_⟩
      · rw [Below.heap_alloc _ _ X (by rw [hX]; simp), hX]; exact heap_alloc_new w1 _
      · have h2 := heap_alloc_new (w1.alloc (.cells #[.int .u64 0, .int .u64 0, .int .u64 0, .int .u64 0] 23)) (.cells #[.int .u64 18446744073709551615, .int .u64 18446744073709551615, .int .u64 18446744073709551615, .int .u64 18446744073709551615] 23)
        rw [World.size_alloc, ← hX] at h2
        exact h2
      · exact below_trans (below_trans g1 (below_new w1 _)) (below_new _ _)
    case round =>
      obtain ⟨j, hj, rfl, rfl, rfl, hx, hr, hbl⟩ := hrel
      obtain ⟨T, hT⟩ : ∃ T, T = puts S4.zero (L.take j) := ⟨_, rfl⟩
      obtain ⟨sa, hsa⟩ : ∃ sa, sa = str (catE eA (L.take j)) := ⟨_, rfl⟩
      obtain ⟨sb, hsb⟩ : ∃ sb, sb = str (catE eB (L.take j).reverse) := ⟨_, rfl⟩
      have hlA : sa.size ≤ 120 := by rw [hsa]; exact sizeA L j HLB.out (by omega)
      have hlB : sb.size ≤ 120 := by rw [hsb]; exact sizeB L j HLB.out (by omega)
      rw [← hsa, ← hsb]
      rw [← hT] at hx hr
      have OK : Hid T.ok := by rw [hT]; exact puts_ok _ _ zero_ok
      by_cases hlt : j < L.length
      · have g1 : (j : Int) < (z.size : Int) := by omega
        have hjz : j < z.size := by omega
        obtain ⟨c, hc⟩ : ∃ c, c = L[j] := ⟨_, rfl⟩
        have hcb : c ≤ 255 := by rw [hc]; exact HLB.out _ (List.getElem_mem hlt)
        have hcz : (z[j]'hjz).toNat = c := by rw [hc]; exact HLG.out j hjz hlt
        have hcw : wrap64 (((z[j]'hjz).toNat : Nat) : Int) = (c : Int) := by rw [hcz]; unfold wrap64; omega
        have hN1 : Hid (puts S4.zero (L.take (j + 1)) = T.put c) := by
          rw [hT, hc]; exact next1 L j hlt
        have hN2 : Hid (str (catE eA (L.take (j + 1))) = sa ++ str (eA c)) := by
          rw [hsa, hc]; exact next2 L j hlt
        have hN3 : Hid (str (catE eB (L.take (j + 1)).reverse) = str (eB c) ++ sb) := by
          rw [hsb, hc]; exact next3 L j hlt
        have HX := Lib.hid hx
        have HR := Lib.hid hr
        have HBL := Lib.hid hbl
        have HLT := Lib.hid hlt
        have HJ := Lib.hid hj
        have HCB := Lib.hid hcb
        clear hx hr hbl hc hT hsa hsb hj hcb hlt hcz HLG
        go_wp2
        rw [hcw]
        clear hcw hjz
        have t1 : (c : Int).tdiv 64 = ((c / 64 : Nat) : Int) := by rw [Int.tdiv_eq_ediv_of_nonneg (by omega)]; omega
        have t2 : (c : Int).tmod 64 = ((c % 64 : Nat) : Int) := by rw [Int.tmod_eq_emod_of_nonneg (by omega)]; omega
        have t11 : (c : Int).tdiv 16 = ((c / 16 : Nat) : Int) := by rw [Int.tdiv_eq_ediv_of_nonneg (by omega)]; omega
        have t12 : (c : Int).tmod 16 = ((c % 16 : Nat) : Int) := by rw [Int.tmod_eq_emod_of_nonneg (by omega)]; omega
        have hq : c / 64 = 0 ∨ c / 64 = 1 ∨ c / 64 = 2 ∨ c / 64 = 3 := by have := HCB.out; omega
        obtain ⟨m, hm⟩ : ∃ m, m = c % 64 := ⟨_, rfl⟩
        have hm2 : m < 64 := by omega
        have m1 : (0 : Int) ≤ (m : Int) := by omega
        have m2 : (m : Int) ≤ 64 := by omega
        have m3 : (m : Int) < 64 := by omega
        rw [← hm] at t2
        have t3 : IntKind.i64.wrap (m : Int) = (m : Int) := IntWalk.i64_in _ (by omega)
        obtain ⟨P, hP⟩ : ∃ P : Nat, P = 2 ^ m := ⟨_, rfl⟩
        have hP64 : P < 18446744073709551616 := by rw [hP]; exact Nat.pow_lt_pow_right (m := m) (n := 64) (by decide) hm2
        have t5 : IntKind.u64.wrap ((2 : Int) ^ m) = (P : Int) := by
          rw [show ((2 : Int) ^ m) = (P : Int) by rw [hP]; simp]
          unfold IntKind.wrap
          simp only [IntKind.bits, IntKind.signed]
          simp
          omega
        have hu : c / 16 < 16 := by have := HCB.out; omega
        have hv : c % 16 < 16 := by omega
        have k1 := cut_lo _ hu
        have k2 := cut_lo _ hv
        have k3 := cut_up _ hu
        have k4 := cut_up _ hv
        have EA : Hid (str (eA c) = ⟨#[92, 120, loC (c / 16), upC (c % 16)]⟩) := rfl
        have EB : Hid (str (eB c) = ⟨#[92, 120, upC (c / 16), loC (c % 16)]⟩) := rfl
        rw [EA.out] at hN2
        rw [EB.out] at hN3
        generalize c / 16 = u at *
        generalize c % 16 = v at *
        generalize loC u = lu at *
        generalize loC v = lv at *
        generalize upC u = uu at *
        generalize upC v = uv at *
        clear EA EB
        have u1 : (0 : Int) ≤ (u : Int) := by omega
        have u2 : (u : Int) < 16 := by omega
        have v1 : (0 : Int) ≤ (v : Int) := by omega
        have v2 : (v : Int) < 16 := by omega
        have HP := Lib.hid hP
        have HP64 := Lib.hid hP64
        clear hP hP64 hu hv
        rcases hq with hq | hq | hq | hq
        · rw [hq] at t1
          have t4 : IntKind.i64.wrap 0 = 0 := by decide
          rw [show ((0 : Nat) : Int) = 0 from rfl] at t1
          obtain ⟨V, hV⟩ : ∃ V : Nat, V = T.a ||| P := ⟨_, rfl⟩
          have t6 : bits .or .u64 (T.a : Int) (P : Int) = (V : Int) := by rw [hV]; exact bits_or64 OK.out.a' HP64.out
          obtain ⟨O, hO⟩ : ∃ O : Nat, O = 18446744073709551615 - T.a := ⟨_, rfl⟩
          obtain ⟨V2, hV2⟩ : ∃ V2 : Nat, V2 = 18446744073709551615 - V := ⟨_, rfl⟩
          have t7 : bits .andNot .u64 (O : Int) (P : Int) = (V2 : Int) := by rw [hO, hV2, hV]; exact bits_andNot64 OK.out.a' HP64.out
          have hnew : (T.put c).cells = T.cells.setIfInBounds 0 (.int .u64 (V : Nat)) := by
            unfold S4.put
            rw [hq, hV, HP.out, hm]
            rfl
          have hnew2 : (T.put c).others.cells = T.others.cells.setIfInBounds 0 (.int .u64 (V2 : Nat)) := by
            unfold S4.put
            rw [hq, hV2, hV, HP.out, hm]
            rfl
          have hd1 : wr.drew.heap[X]? = some (.cells T.cells 23 (0, 0)) := HX.out
          have hd2 : wr.drew.heap[X + 1]? = some (.cells T.others.cells 23 (0, 0)) := HR.out
          have hd3 : Below w.heap.size w wr.drew := HBL.out.drew
          have c1 : wr.drew.cell? ⟨X, 0, none⟩ = some (.int .u64 (T.a : Nat)) := cell_at hd1 rfl
          have f1 : wr.drew.frozen? ⟨X, 0, none⟩ = false := free_at hd1
          have c0 : wr.cell? ⟨X, 0, none⟩ = some (.int .u64 (T.a : Nat)) := c1
          have f0 : wr.frozen? ⟨X, 0, none⟩ = false := f1
          have HN := Lib.hid hnew
          have HN2 := Lib.hid hnew2
          have HD1 := Lib.hid hd1
          have HD2 := Lib.hid hd2
          have HD3 := Lib.hid hd3
          have HO := Lib.hid hO
          clear hV hV2 hO hm hq hm2 hnew hnew2 hd1 hd2 hd3
          go_still_tail 9, (by kernel_rfl)
          change wpList _ _ _ _ _ wr.drew
          generalize wr.drew = w5 at *
          go_wp2
          clear c0 f0 c1 f1
          obtain ⟨W, hW⟩ : ∃ W, W = (w5.setCell ⟨X, 0, none⟩ (.int .u64 (V : Int))) := ⟨_, rfl⟩
          rw [← hW]
          have hd1 : W.drew.heap[X]? = some (.cells (T.put c).cells 23 (0, 0)) := by rw [HN.out, hW]; exact block_setCell HD1.out
          have hd2 : W.drew.heap[X + 1]? = some (.cells T.others.cells 23 (0, 0)) := by rw [hW]; exact (heap_setCell_other _ _ _ _ (by show X + 1 ≠ X; omega)).trans HD2.out
          have hd3 : Below w.heap.size w W.drew := by rw [hW]; exact (HD3.out.setCell (by exact hwX) _).drew
          have c1 : W.drew.cell? ⟨X + 1, 0, none⟩ = some (.int .u64 (O : Nat)) := by rw [HO.out]; exact cell_at hd2 rfl
          have f1 : W.drew.frozen? ⟨X + 1, 0, none⟩ = false := free_at hd2
          have c0 : W.cell? ⟨X + 1, 0, none⟩ = some (.int .u64 (O : Nat)) := c1
          have f0 : W.frozen? ⟨X + 1, 0, none⟩ = false := f1
          clear HD1 HD2 HD3 hW HX HR HBL
          have HD1 := Lib.hid hd1
          have HD2 := Lib.hid hd2
          have HD3 := Lib.hid hd3
          clear hd1 hd2 hd3
          go_still_tail 9, (by kernel_rfl)
          change wpList _ _ _ _ _ W.drew
          generalize W.drew = w6 at *
          go_wp2
          go_quiet (fail)
          go_wp2
          go_quiet (fail)
          go_wp2
          have hjn : j + 1 ≤ L.length := HLT.out
          refine ⟨⟨j + 1, hjn, by rw [hN2.out]; rfl, by rw [hN3.out]; rfl, by simp, ?_, ?_, ?_⟩, by simp [intOf]; have := hjn; omega⟩
          · rw [hN1.out]; exact (heap_setCell_other _ _ _ _ (by show X ≠ X + 1; omega)).trans HD1.out
          · rw [hN1.out, HN2.out]; exact block_setCell HD2.out
          · exact below_drewN (HD3.out.setCell (by show w.heap.size ≤ X + 1; omega) _) _
        · rw [hq] at t1
          have t4 : IntKind.i64.wrap 1 = 1 := by decide
          rw [show ((1 : Nat) : Int) = 1 from rfl] at t1
          obtain ⟨V, hV⟩ : ∃ V : Nat, V = T.b ||| P := ⟨_, rfl⟩
          have t6 : bits .or .u64 (T.b : Int) (P : Int) = (V : Int) := by rw [hV]; exact bits_or64 OK.out.b' HP64.out
          obtain ⟨O, hO⟩ : ∃ O : Nat, O = 18446744073709551615 - T.b := ⟨_, rfl⟩
          obtain ⟨V2, hV2⟩ : ∃ V2 : Nat, V2 = 18446744073709551615 - V := ⟨_, rfl⟩
          have t7 : bits .andNot .u64 (O : Int) (P : Int) = (V2 : Int) := by rw [hO, hV2, hV]; exact bits_andNot64 OK.out.b' HP64.out
          have hnew : (T.put c).cells = T.cells.setIfInBounds 1 (.int .u64 (V : Nat)) := by
            unfold S4.put
            rw [hq, hV, HP.out, hm]
            rfl
          have hnew2 : (T.put c).others.cells = T.others.cells.setIfInBounds 1 (.int .u64 (V2 : Nat)) := by
            unfold S4.put
            rw [hq, hV2, hV, HP.out, hm]
            rfl
          have hd1 : wr.drew.heap[X]? = some (.cells T.cells 23 (0, 0)) := HX.out
          have hd2 : wr.drew.heap[X + 1]? = some (.cells T.others.cells 23 (0, 0)) := HR.out
          have hd3 : Below w.heap.size w wr.drew := HBL.out.drew
          have c1 : wr.drew.cell? ⟨X, 1, none⟩ = some (.int .u64 (T.b : Nat)) := cell_at hd1 rfl
          have f1 : wr.drew.frozen? ⟨X, 1, none⟩ = false := free_at hd1
          have c0 : wr.cell? ⟨X, 1, none⟩ = some (.int .u64 (T.b : Nat)) := c1
          have f0 : wr.frozen? ⟨X, 1, none⟩ = false := f1
          have HN := Lib.hid hnew
          have HN2 := Lib.hid hnew2
          have HD1 := Lib.hid hd1
          have HD2 := Lib.hid hd2
          have HD3 := Lib.hid hd3
          have HO := Lib.hid hO
          clear hV hV2 hO hm hq hm2 hnew hnew2 hd1 hd2 hd3
          go_still_tail 9, (by kernel_rfl)
          change wpList _ _ _ _ _ wr.drew
          generalize wr.drew = w5 at *
          go_wp2
          clear c0 f0 c1 f1
          obtain ⟨W, hW⟩ : ∃ W, W = (w5.setCell ⟨X, 1, none⟩ (.int .u64 (V : Int))) := ⟨_, rfl⟩
          rw [← hW]
          have hd1 : W.drew.heap[X]? = some (.cells (T.put c).cells 23 (0, 0)) := by rw [HN.out, hW]; exact block_setCell HD1.out
          have hd2 : W.drew.heap[X + 1]? = some (.cells T.others.cells 23 (0, 0)) := by rw [hW]; exact (heap_setCell_other _ _ _ _ (by show X + 1 ≠ X; omega)).trans HD2.out
          have hd3 : Below w.heap.size w W.drew := by rw [hW]; exact (HD3.out.setCell (by exact hwX) _).drew
          have c1 : W.drew.cell? ⟨X + 1, 1, none⟩ = some (.int .u64 (O : Nat)) := by rw [HO.out]; exact cell_at hd2 rfl
          have f1 : W.drew.frozen? ⟨X + 1, 1, none⟩ = false := free_at hd2
          have c0 : W.cell? ⟨X + 1, 1, none⟩ = some (.int .u64 (O : Nat)) := c1
          have f0 : W.frozen? ⟨X + 1, 1, none⟩ = false := f1
          clear HD1 HD2 HD3 hW HX HR HBL
          have HD1 := Lib.hid hd1
          have HD2 := Lib.hid hd2
          have HD3 := Lib.hid hd3
          clear hd1 hd2 hd3
          go_still_tail 9, (by kernel_rfl)
          change wpList _ _ _ _ _ W.drew
          generalize W.drew = w6 at *
          go_wp2
          go_quiet (fail)
          go_wp2
          go_quiet (fail)
          go_wp2
          have hjn : j + 1 ≤ L.length := HLT.out
          refine ⟨⟨j + 1, hjn, by rw [hN2.out]; rfl, by rw [hN3.out]; rfl, by simp, ?_, ?_, ?_⟩, by simp [intOf]; have := hjn; omega⟩
          · rw [hN1.out]; exact (heap_setCell_other _ _ _ _ (by show X ≠ X + 1; omega)).trans HD1.out
          · rw [hN1.out, HN2.out]; exact block_setCell HD2.out
          · exact below_drewN (HD3.out.setCell (by show w.heap.size ≤ X + 1; omega) _) _
        · rw [hq] at t1
          have t4 : IntKind.i64.wrap 2 = 2 := by decide
          rw [show ((2 : Nat) : Int) = 2 from rfl] at t1
          obtain ⟨V, hV⟩ : ∃ V : Nat, V = T.c ||| P := ⟨_, rfl⟩
          have t6 : bits .or .u64 (T.c : Int) (P : Int) = (V : Int) := by rw [hV]; exact bits_or64 OK.out.c' HP64.out
          obtain ⟨O, hO⟩ : ∃ O : Nat, O = 18446744073709551615 - T.c := ⟨_, rfl⟩
          obtain ⟨V2, hV2⟩ : ∃ V2 : Nat, V2 = 18446744073709551615 - V := ⟨_, rfl⟩
          have t7 : bits .andNot .u64 (O : Int) (P : Int) = (V2 : Int) := by rw [hO, hV2, hV]; exact bits_andNot64 OK.out.c' HP64.out
          have hnew : (T.put c).cells = T.cells.setIfInBounds 2 (.int .u64 (V : Nat)) := by
            unfold S4.put
            rw [hq, hV, HP.out, hm]
            rfl
          have hnew2 : (T.put c).others.cells = T.others.cells.setIfInBounds 2 (.int .u64 (V2 : Nat)) := by
            unfold S4.put
            rw [hq, hV2, hV, HP.out, hm]
            rfl
          have hd1 : wr.drew.heap[X]? = some (.cells T.cells 23 (0, 0)) := HX.out
          have hd2 : wr.drew.heap[X + 1]? = some (.cells T.others.cells 23 (0, 0)) := HR.out
          have hd3 : Below w.heap.size w wr.drew := HBL.out.drew
          have c1 : wr.drew.cell? ⟨X, 2, none⟩ = some (.int .u64 (T.c : Nat)) := cell_at hd1 rfl
          have f1 : wr.drew.frozen? ⟨X, 2, none⟩ = false := free_at hd1
          have c0 : wr.cell? ⟨X, 2, none⟩ = some (.int .u64 (T.c : Nat)) := c1
          have f0 : wr.frozen? ⟨X, 2, none⟩ = false := f1
          have HN := Lib.hid hnew
          have HN2 := Lib.hid hnew2
          have HD1 := Lib.hid hd1
          have HD2 := Lib.hid hd2
          have HD3 := Lib.hid hd3
          have HO := Lib.hid hO
          clear hV hV2 hO hm hq hm2 hnew hnew2 hd1 hd2 hd3
          go_still_tail 9, (by kernel_rfl)
          change wpList _ _ _ _ _ wr.drew
          generalize wr.drew = w5 at *
          go_wp2
          clear c0 f0 c1 f1
          obtain ⟨W, hW⟩ : ∃ W, W = (w5.setCell ⟨X, 2, none⟩ (.int .u64 (V : Int))) := ⟨_, rfl⟩
          rw [← hW]
          have hd1 : W.drew.heap[X]? = some (.cells (T.put c).cells 23 (0, 0)) := by rw [HN.out, hW]; exact block_setCell HD1.out
          have hd2 : W.drew.heap[X + 1]? = some (.cells T.others.cells 23 (0, 0)) := by rw [hW]; exact (heap_setCell_other _ _ _ _ (by show X + 1 ≠ X; omega)).trans HD2.out
          have hd3 : Below w.heap.size w W.drew := by rw [hW]; exact (HD3.out.setCell (by exact hwX) _).drew
          have c1 : W.drew.cell? ⟨X + 1, 2, none⟩ = some (.int .u64 (O : Nat)) := by rw [HO.out]; exact cell_at hd2 rfl
          have f1 : W.drew.frozen? ⟨X + 1, 2, none⟩ = false := free_at hd2
          have c0 : W.cell? ⟨X + 1, 2, none⟩ = some (.int .u64 (O : Nat)) := c1
          have f0 : W.frozen? ⟨X + 1, 2, none⟩ = false := f1
          clear HD1 HD2 HD3 hW HX HR HBL
          have HD1 := Lib.hid hd1
          have HD2 := Lib.hid hd2
          have HD3 := Lib.hid hd3
          clear hd1 hd2 hd3
          go_still_tail 9, (by kernel_rfl)
          change wpList _ _ _ _ _ W.drew
          generalize W.drew = w6 at *
          go_wp2
          go_quiet (fail)
          go_wp2
          go_quiet (fail)
          go_wp2
          have hjn : j + 1 ≤ L.length := HLT.out
          refine ⟨⟨j + 1, hjn, by rw [hN2.out]; rfl, by rw [hN3.out]; rfl, by simp, ?_, ?_, ?_⟩, by simp [intOf]; have := hjn; omega⟩
          · rw [hN1.out]; exact (heap_setCell_other _ _ _ _ (by show X ≠ X + 1; omega)).trans HD1.out
          · rw [hN1.out, HN2.out]; exact block_setCell HD2.out
          · exact below_drewN (HD3.out.setCell (by show w.heap.size ≤ X + 1; omega) _) _
        · rw [hq] at t1
          have t4 : IntKind.i64.wrap 3 = 3 := by decide
          rw [show ((3 : Nat) : Int) = 3 from rfl] at t1
          obtain ⟨V, hV⟩ : ∃ V : Nat, V = T.d ||| P := ⟨_, rfl⟩
          have t6 : bits .or .u64 (T.d : Int) (P : Int) = (V : Int) := by rw [hV]; exact bits_or64 OK.out.d' HP64.out
          obtain ⟨O, hO⟩ : ∃ O : Nat, O = 18446744073709551615 - T.d := ⟨_, rfl⟩
          obtain ⟨V2, hV2⟩ : ∃ V2 : Nat, V2 = 18446744073709551615 - V := ⟨_, rfl⟩
          have t7 : bits .andNot .u64 (O : Int) (P : Int) = (V2 : Int) := by rw [hO, hV2, hV]; exact bits_andNot64 OK.out.d' HP64.out
          have hnew : (T.put c).cells = T.cells.setIfInBounds 3 (.int .u64 (V : Nat)) := by
            unfold S4.put
            rw [hq, hV, HP.out, hm]
            rfl
          have hnew2 : (T.put c).others.cells = T.others.cells.setIfInBounds 3 (.int .u64 (V2 : Nat)) := by
            unfold S4.put
            rw [hq, hV2, hV, HP.out, hm]
            rfl
          have hd1 : wr.drew.heap[X]? = some (.cells T.cells 23 (0, 0)) := HX.out
          have hd2 : wr.drew.heap[X + 1]? = some (.cells T.others.cells 23 (0, 0)) := HR.out
          have hd3 : Below w.heap.size w wr.drew := HBL.out.drew
          have c1 : wr.drew.cell? ⟨X, 3, none⟩ = some (.int .u64 (T.d : Nat)) := cell_at hd1 rfl
          have f1 : wr.drew.frozen? ⟨X, 3, none⟩ = false := free_at hd1
          have c0 : wr.cell? ⟨X, 3, none⟩ = some (.int .u64 (T.d : Nat)) := c1
          have f0 : wr.frozen? ⟨X, 3, none⟩ = false := f1
          have HN := Lib.hid hnew
          have HN2 := Lib.hid hnew2
          have HD1 := Lib.hid hd1
          have HD2 := Lib.hid hd2
          have HD3 := Lib.hid hd3
          have HO := Lib.hid hO
          clear hV hV2 hO hm hq hm2 hnew hnew2 hd1 hd2 hd3
          go_still_tail 9, (by kernel_rfl)
          change wpList _ _ _ _ _ wr.drew
          generalize wr.drew = w5 at *
          go_wp2
          clear c0 f0 c1 f1
          obtain ⟨W, hW⟩ : ∃ W, W = (w5.setCell ⟨X, 3, none⟩ (.int .u64 (V : Int))) := ⟨_, rfl⟩
          rw [← hW]
          have hd1 : W.drew.heap[X]? = some (.cells (T.put c).cells 23 (0, 0)) := by rw [HN.out, hW]; exact block_setCell HD1.out
          have hd2 : W.drew.heap[X + 1]? = some (.cells T.others.cells 23 (0, 0)) := by rw [hW]; exact (heap_setCell_other _ _ _ _ (by show X + 1 ≠ X; omega)).trans HD2.out
          have hd3 : Below w.heap.size w W.drew := by rw [hW]; exact (HD3.out.setCell (by exact hwX) _).drew
          have c1 : W.drew.cell? ⟨X + 1, 3, none⟩ = some (.int .u64 (O : Nat)) := by rw [HO.out]; exact cell_at hd2 rfl
          have f1 : W.drew.frozen? ⟨X + 1, 3, none⟩ = false := free_at hd2
          have c0 : W.cell? ⟨X + 1, 3, none⟩ = some (.int .u64 (O : Nat)) := c1
          have f0 : W.frozen? ⟨X + 1, 3, none⟩ = false := f1
          clear HD1 HD2 HD3 hW HX HR HBL
          have HD1 := Lib.hid hd1
          have HD2 := Lib.hid hd2
          have HD3 := Lib.hid hd3
          clear hd1 hd2 hd3
          go_still_tail 9, (by kernel_rfl)
          change wpList _ _ _ _ _ W.drew
          generalize W.drew = w6 at *
          go_wp2
          go_quiet (fail)
          go_wp2
          go_quiet (fail)
          go_wp2
          have hjn : j + 1 ≤ L.length := HLT.out
          refine ⟨⟨j + 1, hjn, by rw [hN2.out]; rfl, by rw [hN3.out]; rfl, by simp, ?_, ?_, ?_⟩, by simp [intOf]; have := hjn; omega⟩
          · rw [hN1.out]; exact (heap_setCell_other _ _ _ _ (by show X ≠ X + 1; omega)).trans HD1.out
          · rw [hN1.out, HN2.out]; exact block_setCell HD2.out
          · exact below_drewN (HD3.out.setCell (by show w.heap.size ≤ X + 1; omega) _) _
      · have hjL : j = L.length := by omega
        have g1 : ¬ (j : Int) < (z.size : Int) := by omega
        subst hjL
        rw [List.take_length] at hT hsa hsb
        have dA : sa.data.toList = catE eA L := by rw [hsa]; simp [str]
        have dB : sb.data.toList = catE eB L.reverse := by rw [hsb]; simp [str]
        clear hsa hsb hj hlt HLG HXW
        by_cases h0 : L = []
        · have hz0 : z = ⟨#[]⟩ := by
            apply ByteArray.ext
            have h1 : z.size = 0 := by rw [← hLn, h0]; rfl
            exact Array.eq_empty_of_size_eq_zero h1
          rw [h0] at dA dB
          rw [show catE eA [] = [] from rfl] at dA
          rw [show catE eB [].reverse = [] from rfl] at dB
          have PA : Hid (∀ s' : ByteArray, s'.data.toList = [91, 93] → ∀ w, Calls Tryd.prog 16 #[.string s'] w fun e w' => e = .returned (.tuple #[.agg #[.int .i64 0, .int .i64 0, .int .i64 0, .int .u64 0, .int .u64 0, .int .u64 0, .int .u64 0, .slice none 0 0], .int .i64 50]) ∧ Below w.heap.size w w') := fun s' hs w => parse_no hs told_none
          have PC : Hid (∀ s' : ByteArray, s'.data.toList = [91, 94, 93] → ∀ w, Calls Tryd.prog 16 #[.string s'] w fun e w' => e = .returned (.tuple #[.agg #[.int .i64 0, .int .i64 0, .int .i64 0, .int .u64 0, .int .u64 0, .int .u64 0, .int .u64 0, .slice none 0 0], .int .i64 50]) ∧ Below w.heap.size w w') := fun s' hs w => parse_no hs told_none2
          have HBL := Lib.hid hbl
          subst hz0
          clear hx hr hT h0 hLn hbl
          go_wp2_with (first
            | (go_at_call 16; (with_reducible refine (PA.out _ ?_ _).mono ?_); (· simp [dA]; done); rintro e w2 ⟨rfl, g2⟩; have b2 := below_trans (below_trans HBL.out g2) (below_new w2 (.cells #[.int .i64 0, .int .i64 0, .int .i64 0, .int .u64 0, .int .u64 0, .int .u64 0, .int .u64 0, .slice none 0 0] 26)))
            | (go_at_call 16; (with_reducible refine (PA.out _ ?_ _).mono ?_); (· simp [dB]; done); rintro e w3 ⟨rfl, g3⟩; have b3 := below_trans (below_trans b2 g3) (below_new w3 (.cells #[.int .i64 0, .int .i64 0, .int .i64 0, .int .u64 0, .int .u64 0, .int .u64 0, .int .u64 0, .slice none 0 0] 26)))
            | (go_at_call 16; (with_reducible refine (PC.out _ ?_ _).mono ?_); (· simp [dA]; done); rintro e w4 ⟨rfl, g4⟩; have b4 := below_trans (below_trans b3 g4) (below_new w4 (.cells #[.int .i64 0, .int .i64 0, .int .i64 0, .int .u64 0, .int .u64 0, .int .u64 0, .int .u64 0, .slice none 0 0] 26))))
          go_ret
          exact ⟨rfl, b4⟩
        · have hze : ¬ z = ⟨#[]⟩ := fun e => h0 (List.length_eq_zero_iff.1 (by rw [hLn, e]; rfl))
          have hzb : z.toList.isEmpty = false := by
            rw [ByteArray.toList_eq]
            cases hd : z.data.toList with
            | nil => exact absurd (ByteArray.ext (by simpa using hd)) hze
            | cons _ _ => rfl
          have few : L.length ≤ 30 := by omega
          have pA := told_set Eb_A L h0 HLB.out few
          have pB := told_set Eb_B L.reverse (by simpa using h0) (fun c hc => HLB.out c (List.mem_reverse.1 hc)) (by simpa using few)
          have pC := told_not Eb_A L h0 HLB.out few
          rw [puts_rev L HLB.out, ← hT] at pB
          rw [← hT] at pA pC
          obtain ⟨O, hO⟩ : ∃ O, O = T.others := ⟨_, rfl⟩
          rw [← hO] at pC hr
          clear hT hO OK h0 hzs
          obtain ⟨ta, tb, tc, td⟩ := T
          obtain ⟨oa, ob, oc, od⟩ := O
          have PA : Hid (∀ s' : ByteArray, s'.data.toList = 91 :: (catE eA L ++ [93]) → ∀ w, Calls Tryd.prog 16 #[.string s'] w fun e w' => Below w.heap.size w w' ∧ ∃ ao cp, e = .returned (.tuple #[.agg #[.int .i64 0, .int .i64 0, .int .i64 0, .int .u64 (ta : Int), .int .u64 (tb : Int), .int .u64 (tc : Int), .int .u64 (td : Int), .slice ao 0 cp], .int .i64 0]) ∧ LiesL (w.heap.size ≤ ·) w' (.slice ao 0 cp) []) := fun s' hs w => parse_yes hs pA
          have PB : Hid (∀ s' : ByteArray, s'.data.toList = 91 :: (catE eB L.reverse ++ [93]) → ∀ w, Calls Tryd.prog 16 #[.string s'] w fun e w' => Below w.heap.size w w' ∧ ∃ ao cp, e = .returned (.tuple #[.agg #[.int .i64 0, .int .i64 0, .int .i64 0, .int .u64 (ta : Int), .int .u64 (tb : Int), .int .u64 (tc : Int), .int .u64 (td : Int), .slice ao 0 cp], .int .i64 0]) ∧ LiesL (w.heap.size ≤ ·) w' (.slice ao 0 cp) []) := fun s' hs w => parse_yes hs pB
          have PC : Hid (∀ s' : ByteArray, s'.data.toList = 91 :: 94 :: (catE eA L ++ [93]) → ∀ w, Calls Tryd.prog 16 #[.string s'] w fun e w' => Below w.heap.size w w' ∧ ∃ ao cp, e = .returned (.tuple #[.agg #[.int .i64 0, .int .i64 0, .int .i64 0, .int .u64 (oa : Int), .int .u64 (ob : Int), .int .u64 (oc : Int), .int .u64 (od : Int), .slice ao 0 cp], .int .i64 0]) ∧ LiesL (w.heap.size ≤ ·) w' (.slice ao 0 cp) []) := fun s' hs w => parse_yes hs pC
          have SM : Hid (∀ (D D2 : Nat) (ao : Option Addr) (cp : Nat) (bo : Option Addr) (cq : Nat) (w : World), LiesL (D ≤ ·) w (.slice ao 0 cp) [] → LiesL (D2 ≤ ·) w (.slice bo 0 cq) [] → Calls Tryd.prog 18 #[.agg #[.int .i64 0, .int .i64 0, .int .i64 0, .int .u64 (ta : Int), .int .u64 (tb : Int), .int .u64 (tc : Int), .int .u64 (td : Int), .slice ao 0 cp], .agg #[.int .i64 0, .int .i64 0, .int .i64 0, .int .u64 (ta : Int), .int .u64 (tb : Int), .int .u64 (tc : Int), .int .u64 (td : Int), .slice bo 0 cq]] w fun e w' => e = .returned (.bool true) ∧ Below w.heap.size w w') := fun D D2 ao cp bo cq w h h2 => same_any w (.slice ao 0 cp) (.slice bo 0 cq) (.mk 0 0 0 ta tb tc td []) h h2
          have hx' : wr.heap[X]? = some (.cells #[.int .u64 (ta : Int), .int .u64 (tb : Int), .int .u64 (tc : Int), .int .u64 (td : Int)] 23 (0, 0)) := hx
          have hr' : wr.heap[X + 1]? = some (.cells #[.int .u64 (oa : Int), .int .u64 (ob : Int), .int .u64 (oc : Int), .int .u64 (od : Int)] 23 (0, 0)) := hr
          have HX := Lib.hid hx'
          have HR := Lib.hid hr'
          have HBL := Lib.hid hbl
          clear hx hr hx' hr' hLn hbl pA pB pC few
          generalize catE eA L = LA at *
          generalize catE eB L.reverse = LB at *
          go_wp2_with (first
            | (go_at_call 16; (with_reducible refine (PA.out _ ?_ _).mono ?_); (· simp [dA]; done); rintro e w2 ⟨g2, p2, q2, rfl, l2⟩; have b2 := below_trans (below_trans HBL.out g2) (below_new w2 (.cells #[.int .i64 0, .int .i64 0, .int .i64 0, .int .u64 (ta : Int), .int .u64 (tb : Int), .int .u64 (tc : Int), .int .u64 (td : Int), .slice p2 0 q2] 26)); have x2 := Lib.hid (cell_stay (cell_stay HX.out g2) (below_new w2 (.cells #[.int .i64 0, .int .i64 0, .int .i64 0, .int .u64 (ta : Int), .int .u64 (tb : Int), .int .u64 (tc : Int), .int .u64 (td : Int), .slice p2 0 q2] 26))); have y2 := Lib.hid (cell_stay (cell_stay HR.out g2) (below_new w2 (.cells #[.int .i64 0, .int .i64 0, .int .i64 0, .int .u64 (ta : Int), .int .u64 (tb : Int), .int .u64 (tc : Int), .int .u64 (td : Int), .slice p2 0 q2] 26))); have r2 := Lib.hid (heap_alloc_new w2 (.cells #[.int .i64 0, .int .i64 0, .int .i64 0, .int .u64 (ta : Int), .int .u64 (tb : Int), .int .u64 (tc : Int), .int .u64 (td : Int), .slice p2 0 q2] 26)); have l2 := l2.stay (below_new w2 (.cells #[.int .i64 0, .int .i64 0, .int .i64 0, .int .u64 (ta : Int), .int .u64 (tb : Int), .int .u64 (tc : Int), .int .u64 (td : Int), .slice p2 0 q2] 26)))
            | (go_at_call 16; (with_reducible refine (PB.out _ ?_ _).mono ?_); (· simp [dB]; done); rintro e w3 ⟨g3, p3, q3, rfl, l3⟩; have b3 := below_trans (below_trans b2 g3) (below_new w3 (.cells #[.int .i64 0, .int .i64 0, .int .i64 0, .int .u64 (ta : Int), .int .u64 (tb : Int), .int .u64 (tc : Int), .int .u64 (td : Int), .slice p3 0 q3] 26)); have x3 := Lib.hid (cell_stay (cell_stay x2.out g3) (below_new w3 (.cells #[.int .i64 0, .int .i64 0, .int .i64 0, .int .u64 (ta : Int), .int .u64 (tb : Int), .int .u64 (tc : Int), .int .u64 (td : Int), .slice p3 0 q3] 26))); have y3 := Lib.hid (cell_stay (cell_stay y2.out g3) (below_new w3 (.cells #[.int .i64 0, .int .i64 0, .int .i64 0, .int .u64 (ta : Int), .int .u64 (tb : Int), .int .u64 (tc : Int), .int .u64 (td : Int), .slice p3 0 q3] 26))); have r3 := Lib.hid (heap_alloc_new w3 (.cells #[.int .i64 0, .int .i64 0, .int .i64 0, .int .u64 (ta : Int), .int .u64 (tb : Int), .int .u64 (tc : Int), .int .u64 (td : Int), .slice p3 0 q3] 26)); have s3 := Lib.hid (cell_stay (cell_stay r2.out g3) (below_new w3 (.cells #[.int .i64 0, .int .i64 0, .int .i64 0, .int .u64 (ta : Int), .int .u64 (tb : Int), .int .u64 (tc : Int), .int .u64 (td : Int), .slice p3 0 q3] 26))); have l3 := l3.stay (below_new w3 (.cells #[.int .i64 0, .int .i64 0, .int .i64 0, .int .u64 (ta : Int), .int .u64 (tb : Int), .int .u64 (tc : Int), .int .u64 (td : Int), .slice p3 0 q3] 26)); have m3 := (l2.stay g3).stay (below_new w3 (.cells #[.int .i64 0, .int .i64 0, .int .i64 0, .int .u64 (ta : Int), .int .u64 (tb : Int), .int .u64 (tc : Int), .int .u64 (td : Int), .slice p3 0 q3] 26)))
            | (go_at_call 16; (with_reducible refine (PC.out _ ?_ _).mono ?_); (· simp [dA]; done); rintro e w4 ⟨g4, p4, q4, rfl, l4⟩; have b4 := below_trans (below_trans b3 g4) (below_new w4 (.cells #[.int .i64 0, .int .i64 0, .int .i64 0, .int .u64 (oa : Int), .int .u64 (ob : Int), .int .u64 (oc : Int), .int .u64 (od : Int), .slice p4 0 q4] 26)); have x4 := cell_stay (cell_stay x3.out g4) (below_new w4 (.cells #[.int .i64 0, .int .i64 0, .int .i64 0, .int .u64 (oa : Int), .int .u64 (ob : Int), .int .u64 (oc : Int), .int .u64 (od : Int), .slice p4 0 q4] 26)); have y4 := cell_stay (cell_stay y3.out g4) (below_new w4 (.cells #[.int .i64 0, .int .i64 0, .int .i64 0, .int .u64 (oa : Int), .int .u64 (ob : Int), .int .u64 (oc : Int), .int .u64 (od : Int), .slice p4 0 q4] 26)); have r4 := heap_alloc_new w4 (.cells #[.int .i64 0, .int .i64 0, .int .i64 0, .int .u64 (oa : Int), .int .u64 (ob : Int), .int .u64 (oc : Int), .int .u64 (od : Int), .slice p4 0 q4] 26); have s4 := cell_stay (cell_stay r3.out g4) (below_new w4 (.cells #[.int .i64 0, .int .i64 0, .int .i64 0, .int .u64 (oa : Int), .int .u64 (ob : Int), .int .u64 (oc : Int), .int .u64 (od : Int), .slice p4 0 q4] 26)); have t4 := cell_stay (cell_stay s3.out g4) (below_new w4 (.cells #[.int .i64 0, .int .i64 0, .int .i64 0, .int .u64 (oa : Int), .int .u64 (ob : Int), .int .u64 (oc : Int), .int .u64 (od : Int), .slice p4 0 q4] 26)); have l4 := (l3.stay g4).stay (below_new w4 (.cells #[.int .i64 0, .int .i64 0, .int .i64 0, .int .u64 (oa : Int), .int .u64 (ob : Int), .int .u64 (oc : Int), .int .u64 (od : Int), .slice p4 0 q4] 26)); have m4 := (m3.stay g4).stay (below_new w4 (.cells #[.int .i64 0, .int .i64 0, .int .i64 0, .int .u64 (oa : Int), .int .u64 (ob : Int), .int .u64 (oc : Int), .int .u64 (od : Int), .slice p4 0 q4] 26)); have x4c0 := cell_at (o := 0) x4 rfl; have x4c1 := cell_at (o := 1) x4 rfl; have x4c2 := cell_at (o := 2) x4 rfl; have x4c3 := cell_at (o := 3) x4 rfl; have y4c0 := cell_at (o := 0) y4 rfl; have y4c1 := cell_at (o := 1) y4 rfl; have y4c2 := cell_at (o := 2) y4 rfl; have y4c3 := cell_at (o := 3) y4 rfl; obtain ⟨r4d0, r4d1, r4d2, r4d3, r4d4, r4d5, r4d6, r4d7⟩ := cells8 r4; obtain ⟨s4d0, s4d1, s4d2, s4d3, s4d4, s4d5, s4d6, s4d7⟩ := cells8 s4; obtain ⟨t4d0, t4d1, t4d2, t4d3, t4d4, t4d5, t4d6, t4d7⟩ := cells8 t4)
            | (go_at_call 18; (with_reducible refine (SM.out _ _ _ _ _ _ _ m4 l4).mono ?_); rintro e w5 ⟨rfl, g5⟩; have b5 := below_trans b4 g5; have y5 := cell_stay y4 g5; have r5 := cell_stay r4 g5; have y5c0 := cell_at (o := 0) y5 rfl; have y5c1 := cell_at (o := 1) y5 rfl; have y5c2 := cell_at (o := 2) y5 rfl; have y5c3 := cell_at (o := 3) y5 rfl; obtain ⟨r5d0, r5d1, r5d2, r5d3, r5d4, r5d5, r5d6, r5d7⟩ := cells8 r5))
          go_ret
          exact ⟨rfl, b5⟩
  · have hzs : s.size ≤ 30 := by omega
    go_enter Tryd.func8, Tryd.ntmps8
    go_wp2_with (first
      | (go_at_call 11; (with_reducible refine (FX.out _).mono ?_); rintro e w1 ⟨rfl, g1⟩))
    generalize s = z at *
    obtain ⟨X, hX⟩ : ∃ X, X = w1.heap.size := ⟨_, rfl⟩
    have hwX : w.heap.size ≤ X := by rw [hX]; exact g1.size
    obtain ⟨L, hL⟩ : ∃ L : List Nat, L = z.data.toList.map UInt8.toNat := ⟨_, rfl⟩
    have hLn : L.length = z.size := by rw [hL, List.length_map, Array.length_toList]; rfl
    have HLB : Hid (∀ c ∈ L, c ≤ 255) := by
      rw [hL]; intro c hc
      obtain ⟨b, _, rfl⟩ := List.mem_map.1 hc
      have := b.toNat_lt; omega
    have HLG : Hid (∀ j (h : j < z.size) (h2 : j < L.length), (z[j]'h).toNat = L[j]) := by
      rw [hL]; exact bytes_at z
    rw [← hX]
    have HXW := Lib.hid hX
    clear hX hL
    go_loopw [5, 6, 7] (fun x5 x6 x7 wr => ∃ j : Nat, j ≤ L.length ∧ x5 = .string (str (catE eA (L.take j))) ∧ x6 = .string (str (catE eB (L.take j).reverse)) ∧ x7 = .int .i64 (j : Nat) ∧ wr.heap[X]? = some (.cells (puts S4.zero (L.take j)).cells 23 (0, 0)) ∧ wr.heap[X + 1]? = some (.cells (puts S4.zero (L.take j)).others.cells 23 (0, 0)) ∧ Below w.heap.size w wr) (fun _ _ x7 _ => 31 - (intOf x7).toNat)
    case atStart =>
      have hX := HXW.out
      refine ⟨0, by omega, rfl, rfl, rfl, ?_, ?_, ?_⟩
      · rw [Below.heap_alloc _ _ X (by rw [hX]; simp), hX]; exact heap_alloc_new w1 _
      · have h2 := heap_alloc_new (w1.alloc (.cells #[.int .u64 0, .int .u64 0, .int .u64 0, .int .u64 0] 23)) (.cells #[.int .u64 18446744073709551615, .int .u64 18446744073709551615, .int .u64 18446744073709551615, .int .u64 18446744073709551615] 23)
        rw [World.size_alloc, ← hX] at h2
        exact h2
      · exact below_trans (below_trans g1 (below_new w1 _)) (below_new _ _)
    case round =>
      obtain ⟨j, hj, rfl, rfl, rfl, hx, hr, hbl⟩ := hrel
      obtain ⟨T, hT⟩ : ∃ T, T = puts S4.zero (L.take j) := ⟨_, rfl⟩
      obtain ⟨sa, hsa⟩ : ∃ sa, sa = str (catE eA (L.take j)) := ⟨_, rfl⟩
      obtain ⟨sb, hsb⟩ : ∃ sb, sb = str (catE eB (L.take j).reverse) := ⟨_, rfl⟩
      have hlA : sa.size ≤ 120 := by rw [hsa]; exact sizeA L j HLB.out (by omega)
      have hlB : sb.size ≤ 120 := by rw [hsb]; exact sizeB L j HLB.out (by omega)
      rw [← hsa, ← hsb]
      rw [← hT] at hx hr
      have OK : Hid T.ok := by rw [hT]; exact puts_ok _ _ zero_ok
      by_cases hlt : j < L.length
      · have g1 : (j : Int) < (z.size : Int) := by omega
        have hjz : j < z.size := by omega
        obtain ⟨c, hc⟩ : ∃ c, c = L[j] := ⟨_, rfl⟩
        have hcb : c ≤ 255 := by rw [hc]; exact HLB.out _ (List.getElem_mem hlt)
        have hcz : (z[j]'hjz).toNat = c := by rw [hc]; exact HLG.out j hjz hlt
        have hcw : wrap64 (((z[j]'hjz).toNat : Nat) : Int) = (c : Int) := by rw [hcz]; unfold wrap64; omega
        have hN1 : Hid (puts S4.zero (L.take (j + 1)) = T.put c) := by
          rw [hT, hc]; exact next1 L j hlt
        have hN2 : Hid (str (catE eA (L.take (j + 1))) = sa ++ str (eA c)) := by
          rw [hsa, hc]; exact next2 L j hlt
        have hN3 : Hid (str (catE eB (L.take (j + 1)).reverse) = str (eB c) ++ sb) := by
          rw [hsb, hc]; exact next3 L j hlt
        have HX := Lib.hid hx
        have HR := Lib.hid hr
        have HBL := Lib.hid hbl
        have HLT := Lib.hid hlt
        have HJ := Lib.hid hj
        have HCB := Lib.hid hcb
        clear hx hr hbl hc hT hsa hsb hj hcb hlt hcz HLG
        go_wp2
        rw [hcw]
        clear hcw hjz
        have t1 : (c : Int).tdiv 64 = ((c / 64 : Nat) : Int) := by rw [Int.tdiv_eq_ediv_of_nonneg (by omega)]; omega
        have t2 : (c : Int).tmod 64 = ((c % 64 : Nat) : Int) := by rw [Int.tmod_eq_emod_of_nonneg (by omega)]; omega
        have t11 : (c : Int).tdiv 16 = ((c / 16 : Nat) : Int) := by rw [Int.tdiv_eq_ediv_of_nonneg (by omega)]; omega
        have t12 : (c : Int).tmod 16 = ((c % 16 : Nat) : Int) := by rw [Int.tmod_eq_emod_of_nonneg (by omega)]; omega
        have hq : c / 64 = 0 ∨ c / 64 = 1 ∨ c / 64 = 2 ∨ c / 64 = 3 := by have := HCB.out; omega
        obtain ⟨m, hm⟩ : ∃ m, m = c % 64 := ⟨_, rfl⟩
        have hm2 : m < 64 := by omega
        have m1 : (0 : Int) ≤ (m : Int) := by omega
        have m2 : (m : Int) ≤ 64 := by omega
        have m3 : (m : Int) < 64 := by omega
        rw [← hm] at t2
        have t3 : IntKind.i64.wrap (m : Int) = (m : Int) := IntWalk.i64_in _ (by omega)
        obtain ⟨P, hP⟩ : ∃ P : Nat, P = 2 ^ m := ⟨_, rfl⟩
        have hP64 : P < 18446744073709551616 := by rw [hP]; exact Nat.pow_lt_pow_right (m := m) (n := 64) (by decide) hm2
        have t5 : IntKind.u64.wrap ((2 : Int) ^ m) = (P : Int) := by
          rw [show ((2 : Int) ^ m) = (P : Int) by rw [hP]; simp]
          unfold IntKind.wrap
          simp only [IntKind.bits, IntKind.signed]
          simp
          omega
        have hu : c / 16 < 16 := by have := HCB.out; omega
        have hv : c % 16 < 16 := by omega
        have k1 := cut_lo _ hu
        have k2 := cut_lo _ hv
        have k3 := cut_up _ hu
        have k4 := cut_up _ hv
        have EA : Hid (str (eA c) = ⟨#[92, 120, loC (c / 16), upC (c % 16)]⟩) := rfl
        have EB : Hid (str (eB c) = ⟨#[92, 120, upC (c / 16), loC (c % 16)]⟩) := rfl
        rw [EA.out] at hN2
        rw [EB.out] at hN3
        generalize c / 16 = u at *
        generalize c % 16 = v at *
        generalize loC u = lu at *
        generalize loC v = lv at *
        generalize upC u = uu at *
        generalize upC v = uv at *
        clear EA EB
        have u1 : (0 : Int) ≤ (u : Int) := by omega
        have u2 : (u : Int) < 16 := by omega
        have v1 : (0 : Int) ≤ (v : Int) := by omega
        have v2 : (v : Int) < 16 := by omega
        have HP := Lib.hid hP
        have HP64 := Lib.hid hP64
        clear hP hP64 hu hv
        rcases hq with hq | hq | hq | hq
        · rw [hq] at t1
          have t4 : IntKind.i64.wrap 0 = 0 := by decide
          rw [show ((0 : Nat) : Int) = 0 from rfl] at t1
          obtain ⟨V, hV⟩ : ∃ V : Nat, V = T.a ||| P := ⟨_, rfl⟩
          have t6 : bits .or .u64 (T.a : Int) (P : Int) = (V : Int) := by rw [hV]; exact bits_or64 OK.out.a' HP64.out
          obtain ⟨O, hO⟩ : ∃ O : Nat, O = 18446744073709551615 - T.a := ⟨_, rfl⟩
          obtain ⟨V2, hV2⟩ : ∃ V2 : Nat, V2 = 18446744073709551615 - V := ⟨_, rfl⟩
          have t7 : bits .andNot .u64 (O : Int) (P : Int) = (V2 : Int) := by rw [hO, hV2, hV]; exact bits_andNot64 OK.out.a' HP64.out
          have hnew : (T.put c).cells = T.cells.setIfInBounds 0 (.int .u64 (V : Nat)) := by
            unfold S4.put
            rw [hq, hV, HP.out, hm]
            rfl
          have hnew2 : (T.put c).others.cells = T.others.cells.setIfInBounds 0 (.int .u64 (V2 : Nat)) := by
            unfold S4.put
            rw [hq, hV2, hV, HP.out, hm]
            rfl
          have hd1 : wr.drew.heap[X]? = some (.cells T.cells 23 (0, 0)) := HX.out
          have hd2 : wr.drew.heap[X + 1]? = some (.cells T.others.cells 23 (0, 0)) := HR.out
          have hd3 : Below w.heap.size w wr.drew := HBL.out.drew
          have c1 : wr.drew.cell? ⟨X, 0, none⟩ = some (.int .u64 (T.a : Nat)) := cell_at hd1 rfl
          have f1 : wr.drew.frozen? ⟨X, 0, none⟩ = false := free_at hd1
          have c0 : wr.cell? ⟨X, 0, none⟩ = some (.int .u64 (T.a : Nat)) := c1
          have f0 : wr.frozen? ⟨X, 0, none⟩ = false := f1
          have HN := Lib.hid hnew
          have HN2 := Lib.hid hnew2
          have HD1 := Lib.hid hd1
          have HD2 := Lib.hid hd2
          have HD3 := Lib.hid hd3
          have HO := Lib.hid hO
          clear hV hV2 hO hm hq hm2 hnew hnew2 hd1 hd2 hd3
          go_still_tail 9, (by kernel_rfl)
          change wpList _ _ _ _ _ wr.drew
          generalize wr.drew = w5 at *
          go_wp2
          clear c0 f0 c1 f1
          obtain ⟨W, hW⟩ : ∃ W, W = (w5.setCell ⟨X, 0, none⟩ (.int .u64 (V : Int))) := ⟨_, rfl⟩
          rw [← hW]
          have hd1 : W.drew.heap[X]? = some (.cells (T.put c).cells 23 (0, 0)) := by rw [HN.out, hW]; exact block_setCell HD1.out
          have hd2 : W.drew.heap[X + 1]? = some (.cells T.others.cells 23 (0, 0)) := by rw [hW]; exact (heap_setCell_other _ _ _ _ (by show X + 1 ≠ X; omega)).trans HD2.out
          have hd3 : Below w.heap.size w W.drew := by rw [hW]; exact (HD3.out.setCell (by exact hwX) _).drew
          have c1 : W.drew.cell? ⟨X + 1, 0, none⟩ = some (.int .u64 (O : Nat)) := by rw [HO.out]; exact cell_at hd2 rfl
          have f1 : W.drew.frozen? ⟨X + 1, 0, none⟩ = false := free_at hd2
          have c0 : W.cell? ⟨X + 1, 0, none⟩ = some (.int .u64 (O : Nat)) := c1
          have f0 : W.frozen? ⟨X + 1, 0, none⟩ = false := f1
          clear HD1 HD2 HD3 hW HX HR HBL
          have HD1 := Lib.hid hd1
          have HD2 := Lib.hid hd2
          have HD3 := Lib.hid hd3
          clear hd1 hd2 hd3
          go_still_tail 9, (by kernel_rfl)
          change wpList _ _ _ _ _ W.drew
          generalize W.drew = w6 at *
          go_wp2
          go_quiet (fail)
          go_wp2
          go_quiet (fail)
          go_wp2
          have hjn : j + 1 ≤ L.length := HLT.out
          refine ⟨⟨j + 1, hjn, by rw [hN2.out]; rfl, by rw [hN3.out]; rfl, by simp, ?_, ?_, ?_⟩, by simp [intOf]; have := hjn; omega⟩
          · rw [hN1.out]; exact (heap_setCell_other _ _ _ _ (by show X ≠ X + 1; omega)).trans HD1.out
          · rw [hN1.out, HN2.out]; exact block_setCell HD2.out
          · exact below_drewN (HD3.out.setCell (by show w.heap.size ≤ X + 1; omega) _) _
        · rw [hq] at t1
          have t4 : IntKind.i64.wrap 1 = 1 := by decide
          rw [show ((1 : Nat) : Int) = 1 from rfl] at t1
          obtain ⟨V, hV⟩ : ∃ V : Nat, V = T.b ||| P := ⟨_, rfl⟩
          have t6 : bits .or .u64 (T.b : Int) (P : Int) = (V : Int) := by rw [hV]; exact bits_or64 OK.out.b' HP64.out
          obtain ⟨O, hO⟩ : ∃ O : Nat, O = 18446744073709551615 - T.b := ⟨_, rfl⟩
          obtain ⟨V2, hV2⟩ : ∃ V2 : Nat, V2 = 18446744073709551615 - V := ⟨_, rfl⟩
          have t7 : bits .andNot .u64 (O : Int) (P : Int) = (V2 : Int) := by rw [hO, hV2, hV]; exact bits_andNot64 OK.out.b' HP64.out
          have hnew : (T.put c).cells = T.cells.setIfInBounds 1 (.int .u64 (V : Nat)) := by
            unfold S4.put
            rw [hq, hV, HP.out, hm]
            rfl
          have hnew2 : (T.put c).others.cells = T.others.cells.setIfInBounds 1 (.int .u64 (V2 : Nat)) := by
            unfold S4.put
            rw [hq, hV2, hV, HP.out, hm]
            rfl
          have hd1 : wr.drew.heap[X]? = some (.cells T.cells 23 (0, 0)) := HX.out
          have hd2 : wr.drew.heap[X + 1]? = some (.cells T.others.cells 23 (0, 0)) := HR.out
          have hd3 : Below w.heap.size w wr.drew := HBL.out.drew
          have c1 : wr.drew.cell? ⟨X, 1, none⟩ = some (.int .u64 (T.b : Nat)) := cell_at hd1 rfl
          have f1 : wr.drew.frozen? ⟨X, 1, none⟩ = false := free_at hd1
          have c0 : wr.cell? ⟨X, 1, none⟩ = some (.int .u64 (T.b : Nat)) := c1
          have f0 : wr.frozen? ⟨X, 1, none⟩ = false := f1
          have HN := Lib.hid hnew
          have HN2 := Lib.hid hnew2
          have HD1 := Lib.hid hd1
          have HD2 := Lib.hid hd2
          have HD3 := Lib.hid hd3
          have HO := Lib.hid hO
          clear hV hV2 hO hm hq hm2 hnew hnew2 hd1 hd2 hd3
          go_still_tail 9, (by kernel_rfl)
          change wpList _ _ _ _ _ wr.drew
          generalize wr.drew = w5 at *
          go_wp2
          clear c0 f0 c1 f1
          obtain ⟨W, hW⟩ : ∃ W, W = (w5.setCell ⟨X, 1, none⟩ (.int .u64 (V : Int))) := ⟨_, rfl⟩
          rw [← hW]
          have hd1 : W.drew.heap[X]? = some (.cells (T.put c).cells 23 (0, 0)) := by rw [HN.out, hW]; exact block_setCell HD1.out
          have hd2 : W.drew.heap[X + 1]? = some (.cells T.others.cells 23 (0, 0)) := by rw [hW]; exact (heap_setCell_other _ _ _ _ (by show X + 1 ≠ X; omega)).trans HD2.out
          have hd3 : Below w.heap.size w W.drew := by rw [hW]; exact (HD3.out.setCell (by exact hwX) _).drew
          have c1 : W.drew.cell? ⟨X + 1, 1, none⟩ = some (.int .u64 (O : Nat)) := by rw [HO.out]; exact cell_at hd2 rfl
          have f1 : W.drew.frozen? ⟨X + 1, 1, none⟩ = false := free_at hd2
          have c0 : W.cell? ⟨X + 1, 1, none⟩ = some (.int .u64 (O : Nat)) := c1
          have f0 : W.frozen? ⟨X + 1, 1, none⟩ = false := f1
          clear HD1 HD2 HD3 hW HX HR HBL
          have HD1 := Lib.hid hd1
          have HD2 := Lib.hid hd2
          have HD3 := Lib.hid hd3
          clear hd1 hd2 hd3
          go_still_tail 9, (by kernel_rfl)
          change wpList _ _ _ _ _ W.drew
          generalize W.drew = w6 at *
          go_wp2
          go_quiet (fail)
          go_wp2
          go_quiet (fail)
          go_wp2
          have hjn : j + 1 ≤ L.length := HLT.out
          refine ⟨⟨j + 1, hjn, by rw [hN2.out]; rfl, by rw [hN3.out]; rfl, by simp, ?_, ?_, ?_⟩, by simp [intOf]; have := hjn; omega⟩
          · rw [hN1.out]; exact (heap_setCell_other _ _ _ _ (by show X ≠ X + 1; omega)).trans HD1.out
          · rw [hN1.out, HN2.out]; exact block_setCell HD2.out
          · exact below_drewN (HD3.out.setCell (by show w.heap.size ≤ X + 1; omega) _) _
        · rw [hq] at t1
          have t4 : IntKind.i64.wrap 2 = 2 := by decide
          rw [show ((2 : Nat) : Int) = 2 from rfl] at t1
          obtain ⟨V, hV⟩ : ∃ V : Nat, V = T.c ||| P := ⟨_, rfl⟩
          have t6 : bits .or .u64 (T.c : Int) (P : Int) = (V : Int) := by rw [hV]; exact bits_or64 OK.out.c' HP64.out
          obtain ⟨O, hO⟩ : ∃ O : Nat, O = 18446744073709551615 - T.c := ⟨_, rfl⟩
          obtain ⟨V2, hV2⟩ : ∃ V2 : Nat, V2 = 18446744073709551615 - V := ⟨_, rfl⟩
          have t7 : bits .andNot .u64 (O : Int) (P : Int) = (V2 : Int) := by rw [hO, hV2, hV]; exact bits_andNot64 OK.out.c' HP64.out
          have hnew : (T.put c).cells = T.cells.setIfInBounds 2 (.int .u64 (V : Nat)) := by
            unfold S4.put
            rw [hq, hV, HP.out, hm]
            rfl
          have hnew2 : (T.put c).others.cells = T.others.cells.setIfInBounds 2 (.int .u64 (V2 : Nat)) := by
            unfold S4.put
            rw [hq, hV2, hV, HP.out, hm]
            rfl
          have hd1 : wr.drew.heap[X]? = some (.cells T.cells 23 (0, 0)) := HX.out
          have hd2 : wr.drew.heap[X + 1]? = some (.cells T.others.cells 23 (0, 0)) := HR.out
          have hd3 : Below w.heap.size w wr.drew := HBL.out.drew
          have c1 : wr.drew.cell? ⟨X, 2, none⟩ = some (.int .u64 (T.c : Nat)) := cell_at hd1 rfl
          have f1 : wr.drew.frozen? ⟨X, 2, none⟩ = false := free_at hd1
          have c0 : wr.cell? ⟨X, 2, none⟩ = some (.int .u64 (T.c : Nat)) := c1
          have f0 : wr.frozen? ⟨X, 2, none⟩ = false := f1
          have HN := Lib.hid hnew
          have HN2 := Lib.hid hnew2
          have HD1 := Lib.hid hd1
          have HD2 := Lib.hid hd2
          have HD3 := Lib.hid hd3
          have HO := Lib.hid hO
          clear hV hV2 hO hm hq hm2 hnew hnew2 hd1 hd2 hd3
          go_still_tail 9, (by kernel_rfl)
          change wpList _ _ _ _ _ wr.drew
          generalize wr.drew = w5 at *
          go_wp2
          clear c0 f0 c1 f1
          obtain ⟨W, hW⟩ : ∃ W, W = (w5.setCell ⟨X, 2, none⟩ (.int .u64 (V : Int))) := ⟨_, rfl⟩
          rw [← hW]
          have hd1 : W.drew.heap[X]? = some (.cells (T.put c).cells 23 (0, 0)) := by rw [HN.out, hW]; exact block_setCell HD1.out
          have hd2 : W.drew.heap[X + 1]? = some (.cells T.others.cells 23 (0, 0)) := by rw [hW]; exact (heap_setCell_other _ _ _ _ (by show X + 1 ≠ X; omega)).trans HD2.out
          have hd3 : Below w.heap.size w W.drew := by rw [hW]; exact (HD3.out.setCell (by exact hwX) _).drew
          have c1 : W.drew.cell? ⟨X + 1, 2, none⟩ = some (.int .u64 (O : Nat)) := by rw [HO.out]; exact cell_at hd2 rfl
          have f1 : W.drew.frozen? ⟨X + 1, 2, none⟩ = false := free_at hd2
          have c0 : W.cell? ⟨X + 1, 2, none⟩ = some (.int .u64 (O : Nat)) := c1
          have f0 : W.frozen? ⟨X + 1, 2, none⟩ = false := f1
          clear HD1 HD2 HD3 hW HX HR HBL
          have HD1 := Lib.hid hd1
          have HD2 := Lib.hid hd2
          have HD3 := Lib.hid hd3
          clear hd1 hd2 hd3
          go_still_tail 9, (by kernel_rfl)
          change wpList _ _ _ _ _ W.drew
          generalize W.drew = w6 at *
          go_wp2
          go_quiet (fail)
          go_wp2
          go_quiet (fail)
          go_wp2
          have hjn : j + 1 ≤ L.length := HLT.out
          refine ⟨⟨j + 1, hjn, by rw [hN2.out]; rfl, by rw [hN3.out]; rfl, by simp, ?_, ?_, ?_⟩, by simp [intOf]; have := hjn; omega⟩
          · rw [hN1.out]; exact (heap_setCell_other _ _ _ _ (by show X ≠ X + 1; omega)).trans HD1.out
          · rw [hN1.out, HN2.out]; exact block_setCell HD2.out
          · exact below_drewN (HD3.out.setCell (by show w.heap.size ≤ X + 1; omega) _) _
        · rw [hq] at t1
          have t4 : IntKind.i64.wrap 3 = 3 := by decide
          rw [show ((3 : Nat) : Int) = 3 from rfl] at t1
          obtain ⟨V, hV⟩ : ∃ V : Nat, V = T.d ||| P := ⟨_, rfl⟩
          have t6 : bits .or .u64 (T.d : Int) (P : Int) = (V : Int) := by rw [hV]; exact bits_or64 OK.out.d' HP64.out
          obtain ⟨O, hO⟩ : ∃ O : Nat, O = 18446744073709551615 - T.d := ⟨_, rfl⟩
          obtain ⟨V2, hV2⟩ : ∃ V2 : Nat, V2 = 18446744073709551615 - V := ⟨_, rfl⟩
          have t7 : bits .andNot .u64 (O : Int) (P : Int) = (V2 : Int) := by rw [hO, hV2, hV]; exact bits_andNot64 OK.out.d' HP64.out
          have hnew : (T.put c).cells = T.cells.setIfInBounds 3 (.int .u64 (V : Nat)) := by
            unfold S4.put
            rw [hq, hV, HP.out, hm]
            rfl
          have hnew2 : (T.put c).others.cells = T.others.cells.setIfInBounds 3 (.int .u64 (V2 : Nat)) := by
            unfold S4.put
            rw [hq, hV2, hV, HP.out, hm]
            rfl
          have hd1 : wr.drew.heap[X]? = some (.cells T.cells 23 (0, 0)) := HX.out
          have hd2 : wr.drew.heap[X + 1]? = some (.cells T.others.cells 23 (0, 0)) := HR.out
          have hd3 : Below w.heap.size w wr.drew := HBL.out.drew
          have c1 : wr.drew.cell? ⟨X, 3, none⟩ = some (.int .u64 (T.d : Nat)) := cell_at hd1 rfl
          have f1 : wr.drew.frozen? ⟨X, 3, none⟩ = false := free_at hd1
          have c0 : wr.cell? ⟨X, 3, none⟩ = some (.int .u64 (T.d : Nat)) := c1
          have f0 : wr.frozen? ⟨X, 3, none⟩ = false := f1
          have HN := Lib.hid hnew
          have HN2 := Lib.hid hnew2
          have HD1 := Lib.hid hd1
          have HD2 := Lib.hid hd2
          have HD3 := Lib.hid hd3
          have HO := Lib.hid hO
          clear hV hV2 hO hm hq hm2 hnew hnew2 hd1 hd2 hd3
          go_still_tail 9, (by kernel_rfl)
          change wpList _ _ _ _ _ wr.drew
          generalize wr.drew = w5 at *
          go_wp2
          clear c0 f0 c1 f1
          obtain ⟨W, hW⟩ : ∃ W, W = (w5.setCell ⟨X, 3, none⟩ (.int .u64 (V : Int))) := ⟨_, rfl⟩
          rw [← hW]
          have hd1 : W.drew.heap[X]? = some (.cells (T.put c).cells 23 (0, 0)) := by rw [HN.out, hW]; exact block_setCell HD1.out
          have hd2 : W.drew.heap[X + 1]? = some (.cells T.others.cells 23 (0, 0)) := by rw [hW]; exact (heap_setCell_other _ _ _ _ (by show X + 1 ≠ X; omega)).trans HD2.out
          have hd3 : Below w.heap.size w W.drew := by rw [hW]; exact (HD3.out.setCell (by exact hwX) _).drew
          have c1 : W.drew.cell? ⟨X + 1, 3, none⟩ = some (.int .u64 (O : Nat)) := by rw [HO.out]; exact cell_at hd2 rfl
          have f1 : W.drew.frozen? ⟨X + 1, 3, none⟩ = false := free_at hd2
          have c0 : W.cell? ⟨X + 1, 3, none⟩ = some (.int .u64 (O : Nat)) := c1
          have f0 : W.frozen? ⟨X + 1, 3, none⟩ = false := f1
          clear HD1 HD2 HD3 hW HX HR HBL
          have HD1 := Lib.hid hd1
          have HD2 := Lib.hid hd2
          have HD3 := Lib.hid hd3
          clear hd1 hd2 hd3
          go_still_tail 9, (by kernel_rfl)
          change wpList _ _ _ _ _ W.drew
          generalize W.drew = w6 at *
          go_wp2
          go_quiet (fail)
          go_wp2
          go_quiet (fail)
          go_wp2
          have hjn : j + 1 ≤ L.length := HLT.out
          refine ⟨⟨j + 1, hjn, by rw [hN2.out]; rfl, by rw [hN3.out]; rfl, by simp, ?_, ?_, ?_⟩, by simp [intOf]; have := hjn; omega⟩
          · rw [hN1.out]; exact (heap_setCell_other _ _ _ _ (by show X ≠ X + 1; omega)).trans HD1.out
          · rw [hN1.out, HN2.out]; exact block_setCell HD2.out
          · exact below_drewN (HD3.out.setCell (by show w.heap.size ≤ X + 1; omega) _) _
      · have hjL : j = L.length := by omega
        have g1 : ¬ (j : Int) < (z.size : Int) := by omega
        subst hjL
        rw [List.take_length] at hT hsa hsb
        have dA : sa.data.toList = catE eA L := by rw [hsa]; simp [str]
        have dB : sb.data.toList = catE eB L.reverse := by rw [hsb]; simp [str]
        clear hsa hsb hj hlt HLG HXW
        by_cases h0 : L = []
        · have hz0 : z = ⟨#[]⟩ := by
            apply ByteArray.ext
            have h1 : z.size = 0 := by rw [← hLn, h0]; rfl
            exact Array.eq_empty_of_size_eq_zero h1
          rw [h0] at dA dB
          rw [show catE eA [] = [] from rfl] at dA
          rw [show catE eB [].reverse = [] from rfl] at dB
          have PA : Hid (∀ s' : ByteArray, s'.data.toList = [91, 93] → ∀ w, Calls Tryd.prog 16 #[.string s'] w fun e w' => e = .returned (.tuple #[.agg #[.int .i64 0, .int .i64 0, .int .i64 0, .int .u64 0, .int .u64 0, .int .u64 0, .int .u64 0, .slice none 0 0], .int .i64 50]) ∧ Below w.heap.size w w') := fun s' hs w => parse_no hs told_none
          have PC : Hid (∀ s' : ByteArray, s'.data.toList = [91, 94, 93] → ∀ w, Calls Tryd.prog 16 #[.string s'] w fun e w' => e = .returned (.tuple #[.agg #[.int .i64 0, .int .i64 0, .int .i64 0, .int .u64 0, .int .u64 0, .int .u64 0, .int .u64 0, .slice none 0 0], .int .i64 50]) ∧ Below w.heap.size w w') := fun s' hs w => parse_no hs told_none2
          have HBL := Lib.hid hbl
          subst hz0
          clear hx hr hT h0 hLn hbl
          go_wp2_with (first
            | (go_at_call 16; (with_reducible refine (PA.out _ ?_ _).mono ?_); (· simp [dA]; done); rintro e w2 ⟨rfl, g2⟩; have b2 := below_trans (below_trans HBL.out g2) (below_new w2 (.cells #[.int .i64 0, .int .i64 0, .int .i64 0, .int .u64 0, .int .u64 0, .int .u64 0, .int .u64 0, .slice none 0 0] 26)))
            | (go_at_call 16; (with_reducible refine (PA.out _ ?_ _).mono ?_); (· simp [dB]; done); rintro e w3 ⟨rfl, g3⟩; have b3 := below_trans (below_trans b2 g3) (below_new w3 (.cells #[.int .i64 0, .int .i64 0, .int .i64 0, .int .u64 0, .int .u64 0, .int .u64 0, .int .u64 0, .slice none 0 0] 26)))
            | (go_at_call 16; (with_reducible refine (PC.out _ ?_ _).mono ?_); (· simp [dA]; done); rintro e w4 ⟨rfl, g4⟩; have b4 := below_trans (below_trans b3 g4) (below_new w4 (.cells #[.int .i64 0, .int .i64 0, .int .i64 0, .int .u64 0, .int .u64 0, .int .u64 0, .int .u64 0, .slice none 0 0] 26))))
          go_ret
          exact ⟨rfl, b4⟩
        · have hze : ¬ z = ⟨#[]⟩ := fun e => h0 (List.length_eq_zero_iff.1 (by rw [hLn, e]; rfl))
          have hzb : z.toList.isEmpty = false := by
            rw [ByteArray.toList_eq]
            cases hd : z.data.toList with
            | nil => exact absurd (ByteArray.ext (by simpa using hd)) hze
            | cons _ _ => rfl
          have few : L.length ≤ 30 := by omega
          have pA := told_set Eb_A L h0 HLB.out few
          have pB := told_set Eb_B L.reverse (by simpa using h0) (fun c hc => HLB.out c (List.mem_reverse.1 hc)) (by simpa using few)
          have pC := told_not Eb_A L h0 HLB.out few
          rw [puts_rev L HLB.out, ← hT] at pB
          rw [← hT] at pA pC
          obtain ⟨O, hO⟩ : ∃ O, O = T.others := ⟨_, rfl⟩
          rw [← hO] at pC hr
          clear hT hO OK h0 hzs
          obtain ⟨ta, tb, tc, td⟩ := T
          obtain ⟨oa, ob, oc, od⟩ := O
          have PA : Hid (∀ s' : ByteArray, s'.data.toList = 91 :: (catE eA L ++ [93]) → ∀ w, Calls Tryd.prog 16 #[.string s'] w fun e w' => Below w.heap.size w w' ∧ ∃ ao cp, e = .returned (.tuple #[.agg #[.int .i64 0, .int .i64 0, .int .i64 0, .int .u64 (ta : Int), .int .u64 (tb : Int), .int .u64 (tc : Int), .int .u64 (td : Int), .slice ao 0 cp], .int .i64 0]) ∧ LiesL (w.heap.size ≤ ·) w' (.slice ao 0 cp) []) := fun s' hs w => parse_yes hs pA
          have PB : Hid (∀ s' : ByteArray, s'.data.toList = 91 :: (catE eB L.reverse ++ [93]) → ∀ w, Calls Tryd.prog 16 #[.string s'] w fun e w' => Below w.heap.size w w' ∧ ∃ ao cp, e = .returned (.tuple #[.agg #[.int .i64 0, .int .i64 0, .int .i64 0, .int .u64 (ta : Int), .int .u64 (tb : Int), .int .u64 (tc : Int), .int .u64 (td : Int), .slice ao 0 cp], .int .i64 0]) ∧ LiesL (w.heap.size ≤ ·) w' (.slice ao 0 cp) []) := fun s' hs w => parse_yes hs pB
          have PC : Hid (∀ s' : ByteArray, s'.data.toList = 91 :: 94 :: (catE eA L ++ [93]) → ∀ w, Calls Tryd.prog 16 #[.string s'] w fun e w' => Below w.heap.size w w' ∧ ∃ ao cp, e = .returned (.tuple #[.agg #[.int .i64 0, .int .i64 0, .int .i64 0, .int .u64 (oa : Int), .int .u64 (ob : Int), .int .u64 (oc : Int), .int .u64 (od : Int), .slice ao 0 cp], .int .i64 0]) ∧ LiesL (w.heap.size ≤ ·) w' (.slice ao 0 cp) []) := fun s' hs w => parse_yes hs pC
          have SM : Hid (∀ (D D2 : Nat) (ao : Option Addr) (cp : Nat) (bo : Option Addr) (cq : Nat) (w : World), LiesL (D ≤ ·) w (.slice ao 0 cp) [] → LiesL (D2 ≤ ·) w (.slice bo 0 cq) [] → Calls Tryd.prog 18 #[.agg #[.int .i64 0, .int .i64 0, .int .i64 0, .int .u64 (ta : Int), .int .u64 (tb : Int), .int .u64 (tc : Int), .int .u64 (td : Int), .slice ao 0 cp], .agg #[.int .i64 0, .int .i64 0, .int .i64 0, .int .u64 (ta : Int), .int .u64 (tb : Int), .int .u64 (tc : Int), .int .u64 (td : Int), .slice bo 0 cq]] w fun e w' => e = .returned (.bool true) ∧ Below w.heap.size w w') := fun D D2 ao cp bo cq w h h2 => same_any w (.slice ao 0 cp) (.slice bo 0 cq) (.mk 0 0 0 ta tb tc td []) h h2
          have hx' : wr.heap[X]? = some (.cells #[.int .u64 (ta : Int), .int .u64 (tb : Int), .int .u64 (tc : Int), .int .u64 (td : Int)] 23 (0, 0)) := hx
          have hr' : wr.heap[X + 1]? = some (.cells #[.int .u64 (oa : Int), .int .u64 (ob : Int), .int .u64 (oc : Int), .int .u64 (od : Int)] 23 (0, 0)) := hr
          have HX := Lib.hid hx'
          have HR := Lib.hid hr'
          have HBL := Lib.hid hbl
          clear hx hr hx' hr' hLn hbl pA pB pC few
          generalize catE eA L = LA at *
          generalize catE eB L.reverse = LB at *
          go_wp2_with (first
            | (go_at_call 16; (with_reducible refine (PA.out _ ?_ _).mono ?_); (· simp [dA]; done); rintro e w2 ⟨g2, p2, q2, rfl, l2⟩; have b2 := below_trans (below_trans HBL.out g2) (below_new w2 (.cells #[.int .i64 0, .int .i64 0, .int .i64 0, .int .u64 (ta : Int), .int .u64 (tb : Int), .int .u64 (tc : Int), .int .u64 (td : Int), .slice p2 0 q2] 26)); have x2 := Lib.hid (cell_stay (cell_stay HX.out g2) (below_new w2 (.cells #[.int .i64 0, .int .i64 0, .int .i64 0, .int .u64 (ta : Int), .int .u64 (tb : Int), .int .u64 (tc : Int), .int .u64 (td : Int), .slice p2 0 q2] 26))); have y2 := Lib.hid (cell_stay (cell_stay HR.out g2) (below_new w2 (.cells #[.int .i64 0, .int .i64 0, .int .i64 0, .int .u64 (ta : Int), .int .u64 (tb : Int), .int .u64 (tc : Int), .int .u64 (td : Int), .slice p2 0 q2] 26))); have r2 := Lib.hid (heap_alloc_new w2 (.cells #[.int .i64 0, .int .i64 0, .int .i64 0, .int .u64 (ta : Int), .int .u64 (tb : Int), .int .u64 (tc : Int), .int .u64 (td : Int), .slice p2 0 q2] 26)); have l2 := l2.stay (below_new w2 (.cells #[.int .i64 0, .int .i64 0, .int .i64 0, .int .u64 (ta : Int), .int .u64 (tb : Int), .int .u64 (tc : Int), .int .u64 (td : Int), .slice p2 0 q2] 26)))
            | (go_at_call 16; (with_reducible refine (PB.out _ ?_ _).mono ?_); (· simp [dB]; done); rintro e w3 ⟨g3, p3, q3, rfl, l3⟩; have b3 := below_trans (below_trans b2 g3) (below_new w3 (.cells #[.int .i64 0, .int .i64 0, .int .i64 0, .int .u64 (ta : Int), .int .u64 (tb : Int), .int .u64 (tc : Int), .int .u64 (td : Int), .slice p3 0 q3] 26)); have x3 := Lib.hid (cell_stay (cell_stay x2.out g3) (below_new w3 (.cells #[.int .i64 0, .int .i64 0, .int .i64 0, .int .u64 (ta : Int), .int .u64 (tb : Int), .int .u64 (tc : Int), .int .u64 (td : Int), .slice p3 0 q3] 26))); have y3 := Lib.hid (cell_stay (cell_stay y2.out g3) (below_new w3 (.cells #[.int .i64 0, .int .i64 0, .int .i64 0, .int .u64 (ta : Int), .int .u64 (tb : Int), .int .u64 (tc : Int), .int .u64 (td : Int), .slice p3 0 q3] 26))); have r3 := Lib.hid (heap_alloc_new w3 (.cells #[.int .i64 0, .int .i64 0, .int .i64 0, .int .u64 (ta : Int), .int .u64 (tb : Int), .int .u64 (tc : Int), .int .u64 (td : Int), .slice p3 0 q3] 26)); have s3 := Lib.hid (cell_stay (cell_stay r2.out g3) (below_new w3 (.cells #[.int .i64 0, .int .i64 0, .int .i64 0, .int .u64 (ta : Int), .int .u64 (tb : Int), .int .u64 (tc : Int), .int .u64 (td : Int), .slice p3 0 q3] 26))); have l3 := l3.stay (below_new w3 (.cells #[.int .i64 0, .int .i64 0, .int .i64 0, .int .u64 (ta : Int), .int .u64 (tb : Int), .int .u64 (tc : Int), .int .u64 (td : Int), .slice p3 0 q3] 26)); have m3 := (l2.stay g3).stay (below_new w3 (.cells #[.int .i64 0, .int .i64 0, .int .i64 0, .int .u64 (ta : Int), .int .u64 (tb : Int), .int .u64 (tc : Int), .int .u64 (td : Int), .slice p3 0 q3] 26)))
            | (go_at_call 16; (with_reducible refine (PC.out _ ?_ _).mono ?_); (· simp [dA]; done); rintro e w4 ⟨g4, p4, q4, rfl, l4⟩; have b4 := below_trans (below_trans b3 g4) (below_new w4 (.cells #[.int .i64 0, .int .i64 0, .int .i64 0, .int .u64 (oa : Int), .int .u64 (ob : Int), .int .u64 (oc : Int), .int .u64 (od : Int), .slice p4 0 q4] 26)); have x4 := cell_stay (cell_stay x3.out g4) (below_new w4 (.cells #[.int .i64 0, .int .i64 0, .int .i64 0, .int .u64 (oa : Int), .int .u64 (ob : Int), .int .u64 (oc : Int), .int .u64 (od : Int), .slice p4 0 q4] 26)); have y4 := cell_stay (cell_stay y3.out g4) (below_new w4 (.cells #[.int .i64 0, .int .i64 0, .int .i64 0, .int .u64 (oa : Int), .int .u64 (ob : Int), .int .u64 (oc : Int), .int .u64 (od : Int), .slice p4 0 q4] 26)); have r4 := heap_alloc_new w4 (.cells #[.int .i64 0, .int .i64 0, .int .i64 0, .int .u64 (oa : Int), .int .u64 (ob : Int), .int .u64 (oc : Int), .int .u64 (od : Int), .slice p4 0 q4] 26); have s4 := cell_stay (cell_stay r3.out g4) (below_new w4 (.cells #[.int .i64 0, .int .i64 0, .int .i64 0, .int .u64 (oa : Int), .int .u64 (ob : Int), .int .u64 (oc : Int), .int .u64 (od : Int), .slice p4 0 q4] 26)); have t4 := cell_stay (cell_stay s3.out g4) (below_new w4 (.cells #[.int .i64 0, .int .i64 0, .int .i64 0, .int .u64 (oa : Int), .int .u64 (ob : Int), .int .u64 (oc : Int), .int .u64 (od : Int), .slice p4 0 q4] 26)); have l4 := (l3.stay g4).stay (below_new w4 (.cells #[.int .i64 0, .int .i64 0, .int .i64 0, .int .u64 (oa : Int), .int .u64 (ob : Int), .int .u64 (oc : Int), .int .u64 (od : Int), .slice p4 0 q4] 26)); have m4 := (m3.stay g4).stay (below_new w4 (.cells #[.int .i64 0, .int .i64 0, .int .i64 0, .int .u64 (oa : Int), .int .u64 (ob : Int), .int .u64 (oc : Int), .int .u64 (od : Int), .slice p4 0 q4] 26)); have x4c0 := cell_at (o := 0) x4 rfl; have x4c1 := cell_at (o := 1) x4 rfl; have x4c2 := cell_at (o := 2) x4 rfl; have x4c3 := cell_at (o := 3) x4 rfl; have y4c0 := cell_at (o := 0) y4 rfl; have y4c1 := cell_at (o := 1) y4 rfl; have y4c2 := cell_at (o := 2) y4 rfl; have y4c3 := cell_at (o := 3) y4 rfl; obtain ⟨r4d0, r4d1, r4d2, r4d3, r4d4, r4d5, r4d6, r4d7⟩ := cells8 r4; obtain ⟨s4d0, s4d1, s4d2, s4d3, s4d4, s4d5, s4d6, s4d7⟩ := cells8 s4; obtain ⟨t4d0, t4d1, t4d2, t4d3, t4d4, t4d5, t4d6, t4d7⟩ := cells8 t4)
            | (go_at_call 18; (with_reducible refine (SM.out _ _ _ _ _ _ _ m4 l4).mono ?_); rintro e w5 ⟨rfl, g5⟩; have b5 := below_trans b4 g5; have y5 := cell_stay y4 g5; have r5 := cell_stay r4 g5; have y5c0 := cell_at (o := 0) y5 rfl; have y5c1 := cell_at (o := 1) y5 rfl; have y5c2 := cell_at (o := 2) y5 rfl; have y5c3 := cell_at (o := 3) y5 rfl; obtain ⟨r5d0, r5d1, r5d2, r5d3, r5d4, r5d5, r5d6, r5d7⟩ := cells8 r5))
          go_ret
          exact ⟨rfl, b5⟩

end Go.Proofs.YthejkelnjimogaaDoor
