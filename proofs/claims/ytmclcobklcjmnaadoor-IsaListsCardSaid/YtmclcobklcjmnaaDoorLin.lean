/- A line of a listing. Conditions: four bytes; the library's variables are as they were laid. -/
import Derived.Test.YtmclcobklcjmnaaDoorFun
import Derived.Test.YtmclcobklcjmnaaDoorDec
namespace Go.Proofs.YtmclcobklcjmnaaDoor
open Go.RowKit Go.Maps
set_option linter.unusedVariables false
set_option linter.unusedSimpArgs false

def valB (l : Bs) : Nat := l.foldl (fun n b => 256 * n + b.toNat) 0
def wordL : Bs := [119, 111, 114, 100, 32]
def linS (b : Bs) : Bs := match decS b with | some i => prnI i | none => wordL ++ Lib.decDigits (valB b)
theorem valB_snoc (l : Bs) (b : UInt8) : valB (l ++ [b]) = 256 * valB l + b.toNat := by simp [valB]
theorem valB_lt (l : Bs) : ∀ k, k ≤ l.length → valB (l.take k) < 256 ^ k
  | 0, _ => by simp [valB]
  | k + 1, h => by
    rw [List.take_succ_eq_append_getElem (by omega), valB_snoc, Nat.pow_succ]
    have h1 := valB_lt l k (by omega)
    have h2 : (l[k]).toNat < 256 := (l[k]).toNat_lt
    omega
theorem bits_or64 {a P : Nat} (ha : a < 18446744073709551616) (hP : P < 18446744073709551616) : bits .or .u64 (a : Int) (P : Int) = ((a ||| P : Nat) : Int) := by
  have h : a ||| P < 18446744073709551616 := Nat.or_lt_two_pow (n := 64) ha hP
  show IntKind.u64.wrap ((BitVec.ofInt 64 (a : Int) ||| BitVec.ofInt 64 (P : Int)).toNat : Int) = _
  rw [BitVec.ofInt_natCast, BitVec.ofInt_natCast, BitVec.toNat_or, BitVec.toNat_ofNat, BitVec.toNat_ofNat, Nat.mod_eq_of_lt ha, Nat.mod_eq_of_lt hP]
  unfold IntKind.wrap
  simp only [IntKind.bits, IntKind.signed]
  simp
  omega
theorem or_u64 (n : Nat) (b : UInt8) (h : n < 16777216) : bits .or .u64 (((256 * n : Nat)) : Int) ((b.toNat : Nat) : Int) = ((256 * n + b.toNat : Nat) : Int) := by
  have hb : b.toNat < 256 := b.toNat_lt
  rw [bits_or64 (by omega) (by omega)]
  have := Nat.shiftLeft_add_eq_or_of_lt (i := 8) hb n
  rw [Nat.shiftLeft_eq] at this
  rw [Nat.mul_comm 256 n]
  rw [show (2 : Nat) ^ 8 = 256 from rfl] at this
  rw [this]
set_option maxRecDepth 100000 in
set_option maxHeartbeats 4000000 in
theorem lin_any (s : ByteArray) (hs : s.size = 4) (w : World) (hL : LaidV w) : Calls Tryd.prog 33 #[.string s] w fun e w' => e = .returned (.string (str (linS s.data.toList))) ∧ Below w.heap.size w w' := by
  have KD := Lib.hid (fun w => dec_any s w)
  have KP : Hid (∀ i w1, Below w.heap.size w w1 → Calls Tryd.prog 16 #[inV i] w1 fun e w' => e = .returned (.tuple #[.string (str (prnS i)), .int .i64 (ckE i)]) ∧ Below w1.heap.size w1 w') := Lib.hid fun i w1 h => prn_any i w1 (hL.below h)
  have KF : Hid (∀ u : Nat, u < 18446744073709551616 → ∀ w1, Below w.heap.size w w1 → Calls Tryd.prog 54 #[.int .u64 (u : Nat), .int .i64 10] w1 fun e w' => e = .returned (.string (str (Lib.decDigits u))) ∧ Below w1.heap.size w1 w') := Lib.hid fun u hu w1 h => fmt_any u hu w1 (hL.below h)
  unfold linS
  unfold decV decE at KD
  cases hd : decS s.data.toList with
  | some i =>
    rw [hd] at KD
    have hok := (dec_some hd).1
    have KP2 := Lib.hid (KP.out i)
    unfold prnS ckE at KP2
    rw [if_pos hok, if_pos hok] at KP2
    dsimp only at *
    clear hd hL hs KP KF hok
    generalize str (prnI i) = t at *
    unfold inV at *
    obtain ⟨op, a, b, imm⟩ := i
    dsimp only at *
    go_enter Tryd.func33, Tryd.ntmps33
    go_wp2_with (first
      | (go_at_call 18; (with_reducible refine (KD.out _).mono ?_); rintro e w1 ⟨rfl, hb⟩; have HB1 := Lib.hid hb; clear hb)
      | (go_at_call 16; (with_reducible refine (KP2.out _ (HB1.out.alloc HB1.out.size _)).mono ?_); rintro e w2 ⟨rfl, hb⟩; have HB2 := Lib.hid hb; clear hb))
    go_ret
    exact ⟨rfl, (HB1.out.alloc HB1.out.size _).trans (HB2.out.mono (by have := HB1.out.size; simp; omega))⟩
  | none =>
    rw [hd] at KD
    dsimp only at *
    unfold inV zeroI at KD
    dsimp only at KD
    clear hd hL KP
    have E : Hid (str (wordL ++ Lib.decDigits (valB s.data.toList)) = ⟨#[119, 111, 114, 100, 32]⟩ ++ str (Lib.decDigits (valB s.data.toList))) := Lib.hid (by rw [str_add]; rfl)
    have hl : (str (Lib.decDigits (valB s.data.toList))).size ≤ 1000 := by
      rw [str_size, Lib.decDigits_length]
      have h1 := valB_lt s.data.toList 4 (by rw [Array.length_toList]; show 4 ≤ s.size; omega)
      rw [List.take_of_length_le (by rw [Array.length_toList]; show s.size ≤ 4; omega)] at h1
      by_cases h0 : valB s.data.toList = 0
      · rw [h0]; decide +kernel
      · have := Lib.numDigits_eq (valB s.data.toList) (by omega) (by omega); split at this <;> omega
    rw [E.out]
    obtain ⟨t, ht⟩ : ∃ t, t = str (Lib.decDigits (valB s.data.toList)) := ⟨_, rfl⟩
    rw [← ht]
    rw [← ht] at hl
    have HTT := Lib.hid ht
    clear E ht
    have cv : ∀ W, (convert 9 37 (.string s)).run Tryd.prog W = .ok (.slice (some ⟨W.heap.size, 0, none⟩) s.size (grownCap W s.size 0 5)) (Lib.bytesWorld W 5 s) := fun W => Lib.run_convert_string_bytes (P := Tryd.prog) W 9 37 5 s Tryd.underlying9 Tryd.underlying37 Tryd.underlying5
    go_enter Tryd.func33, Tryd.ntmps33
    go_wp2_with (first
      | (go_at_call 18; (with_reducible refine (KD.out _).mono ?_); rintro e w1 ⟨rfl, hb⟩; have HB1 := Lib.hid hb; clear hb))
    obtain ⟨W, hW⟩ : ∃ W, W = Lib.bytesWorld (w1.alloc (.cells #[.int .i64 0, .int .i64 0, .int .i64 0, .int .i64 0] 30)) 5 s := ⟨_, rfl⟩
    have cells : Hid (∀ j, j < 4 → W.cell? ⟨w1.heap.size + 1, j, none⟩ = some (.int .u8 (s.data.toList.getD j 0).toNat)) := Lib.hid fun j hj => by
      have := Lib.bytesWorld_cell (w1.alloc (.cells #[.int .i64 0, .int .i64 0, .int .i64 0, .int .i64 0] 30)) 5 s j (by omega)
      rw [hW]
      simpa using this
    have HBW : Hid (Below w.heap.size w W) := Lib.hid (by
      rw [hW]
      exact (HB1.out.alloc HB1.out.size _).trans ((Lib.bytesWorld_below _ _ _).mono (by have := HB1.out.size; simp; omega)))
    rw [← hW]
    generalize grownCap _ _ _ _ = cap
    clear hW cv
    have HS := Lib.hid hs
    clear hs
    go_loop [7, 26] (fun n i => ∃ k : Nat, k ≤ 4 ∧ i = .int .i64 k ∧ n = .int .u64 (valB (s.data.toList.take k) : Nat)) (fun _ i => 4 - (intOf i).toNat)
    case atStart => exact ⟨0, by omega, rfl, rfl⟩
    case round =>
      obtain ⟨k, hk, rfl, rfl⟩ := hrel
      have hlen : s.data.toList.length = 4 := by rw [Array.length_toList]; exact HS.out
      by_cases hlt : k < 4
      · have c := cells.out k hlt
        have hv := valB_lt s.data.toList k (by omega)
        have hsn : valB (s.data.toList.take (k + 1)) = 256 * valB (s.data.toList.take k) + (s.data.toList.getD k 0).toNat := by
          rw [List.take_succ_eq_append_getElem (by omega), valB_snoc, List.getD_eq_getElem?_getD, List.getElem?_eq_getElem (by omega)]
          rfl
        have hv3 : valB (s.data.toList.take k) < 16777216 := by
          have : 256 ^ k ≤ 256 ^ 3 := Nat.pow_le_pow_right (by omega) (by omega)
          omega
        generalize s.data.toList.getD k 0 = b at *
        generalize valB (s.data.toList.take k) = v at *
        have ho := or_u64 v b hv3
        have hx : (0 : Int) ≤ (v : Int) := by omega
        have hy : (v : Int) < 16777216 := by omega
        obtain ⟨U, hU⟩ : ∃ U, U = 256 * v := ⟨_, rfl⟩
        obtain ⟨R, hR⟩ : ∃ R, R = 256 * v + b.toNat := ⟨_, rfl⟩
        have h256 : ((v : Int) * 256) = (U : Int) := by omega
        have hw : IntKind.u64.wrap (U : Int) = (U : Int) := by rw [IntKind.wrap_u64]; omega
        have hu1 : (0 : Int) ≤ (U : Int) := by omega
        have hu2 : (U : Int) < 4294967296 := by omega
        rw [← hU, show U + b.toNat = R from by omega] at ho
        have HSN := Lib.hid (hsn.trans hR.symm)
        clear hsn hlen hv hU hR hv3 hx hy
        have hwb : IntKind.u64.wrap ((b.toNat : Nat) : Int) = ((b.toNat : Nat) : Int) := by have := b.toNat_lt; rw [IntKind.wrap_u64]; omega
        clear hu1 hu2
        go_wp2
        exact ⟨⟨k + 1, by omega, by go_num, by rw [HSN.out]⟩, by simp [intOf]; omega⟩
      · obtain rfl : k = 4 := by omega
        rw [List.take_of_length_le (by omega)]
        have hv := valB_lt s.data.toList 4 (by omega)
        rw [List.take_of_length_le (by omega)] at hv
        have KF2 := Lib.hid (KF.out _ (Nat.lt_trans hv (by decide)))
        rw [← HTT.out] at KF2
        generalize valB s.data.toList = v at *
        clear hlen hv hlt
        go_wp2_with (go_at_call 54; (with_reducible refine (KF2.out _ HBW.out).mono ?_); rintro e w2 ⟨rfl, hb⟩; have HB2 := Lib.hid hb; clear hb)
        go_ret
        exact ⟨rfl, HBW.out.trans (HB2.out.mono HBW.out.size)⟩
end Go.Proofs.YtmclcobklcjmnaaDoor
