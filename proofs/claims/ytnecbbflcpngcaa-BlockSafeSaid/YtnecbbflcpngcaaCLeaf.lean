/- The small functions of the code and of the document's answer: a step of the register, a width, the sum of bytes (both), the number of bytes (both), a new reader: what each call returns; the world stays. Conditions: a string's bytes are at most maxLen. -/
import Derived.Test.YtnecbbflcpngcaaRows
import Derived.Test.YtnecbbflcpngcaaCMatb
import Derived.WalkKit
import Derived.WalkSpells
import Derived.WalkLawsBesides
import Derived.Lib.Hide
namespace Go.Proofs.Ytnecbbflcpngcaa.Cd
open Go.RowKit
set_option maxRecDepth 20000

theorem ret_int {k : IntKind} {a b : Int} (h : a = b) : Ending.returned (.int k a) = .returned (.int k b) := by rw [h]

theorem and1 (a : Nat) (h : a < 4294967296) : bits BinOp.and IntKind.u32 (a : Int) 1 = ((a % 2 : Nat) : Int) := by
  have := u32_and_nat a 1 h (by decide)
  rw [Nat.and_one_is_mod] at this
  exact this
theorem xorN (a b : Nat) (h : a < 4294967296) (hb : b < 4294967296) : bits BinOp.xor IntKind.u32 (a : Int) (b : Int) = ((a ^^^ b : Nat) : Int) := u32_xor_nat a b h hb

set_option maxHeartbeats 400000 in
theorem step_any (n : Int) (h0 : 0 ≤ n) (h1 : n ≤ 4294967295) (w : World) :
    Calls Try.prog 99 #[.int .u32 n] w fun e w' => e = .returned (.int .u32 (stp n.toNat : Nat)) ∧ w = w' := by
  obtain ⟨a, rfl⟩ := Int.eq_ofNat_of_zero_le h0
  have ha : a < 4294967296 := by omega
  have e1 : (((a : Int) / 2 : Int)) = ((a / 2 : Nat) : Int) := by omega
  have e2 : bits BinOp.xor IntKind.u32 ((a : Int) / 2) 3988292384 = (((a / 2) ^^^ poly : Nat) : Int) := by
    rw [e1]; exact xorN _ _ (by omega) (by decide)
  have E1 : Hid _ := e1
  have E2 : Hid _ := e2
  clear e1 e2
  rw [Int.toNat_natCast]
  by_cases hb : a % 2 = 1
  · have hc : (bits BinOp.and IntKind.u32 (a : Int) 1 == 1) = true := by rw [and1 a ha, hb]; rfl
    have F : Hid (stp a = a / 2 ^^^ poly) := by unfold stp Hid; rw [if_pos hb]
    clear hb
    go_enter Try.func99, Try.ntmps99
    go_wp2
    go_ret
    exact ⟨ret_int (by rw [F.out]; exact E2.out), rfl⟩
  · have hc : (bits BinOp.and IntKind.u32 (a : Int) 1 == 1) = false := by rw [and1 a ha, show a % 2 = 0 by omega]; rfl
    have F : Hid (stp a = a / 2) := by unfold stp Hid; rw [if_neg hb]
    clear hb
    go_enter Try.func99, Try.ntmps99
    go_wp2
    go_ret
    exact ⟨ret_int (by rw [F.out]; exact E1.out), rfl⟩

def isW (n : Int) : Bool := decide (1 ≤ n ∧ n ≤ 8)
theorem isW_yes {n : Int} (h : 1 ≤ n) (h8 : n ≤ 8) : isW n = true := decide_eq_true ⟨h, h8⟩
theorem isW_no {n : Int} (h : ¬ (1 ≤ n ∧ n ≤ 8)) : isW n = false := decide_eq_false h
theorem ret_bool {a b : Bool} (h : a = b) : Ending.returned (.bool a) = .returned (.bool b) := by rw [h]
set_option maxHeartbeats 400000 in
theorem isWidth_any (n : Int)  (w : World) :
    Calls Try.prog 79 #[.int .i64 n] w fun e w' => e = .returned (.bool (isW n)) ∧ w = w' := by
  by_cases h : 1 ≤ n
  · by_cases h8 : n ≤ 8
    · have H := Lib.hid (isW_yes h h8)
      go_enter Try.func79, Try.ntmps79
      go_wp2
      go_ret
      exact ⟨by rw [H.out]; rfl, rfl⟩
    · have H := Lib.hid (isW_no (n := n) (fun x => h8 x.2))
      go_enter Try.func79, Try.ntmps79
      go_wp2
      go_ret
      exact ⟨by rw [H.out]; rfl, rfl⟩
  · have H := Lib.hid (isW_no (n := n) (fun x => h x.1))
    go_enter Try.func79, Try.ntmps79
    go_wp2
    go_ret
    exact ⟨by rw [H.out]; rfl, rfl⟩

theorem xorByte (r : Nat) (c : UInt8) (h : r < 4294967296) : bits BinOp.xor IntKind.u32 (r : Int) ((c.toNat : Int) % 4294967296) = ((r ^^^ c.toNat : Nat) : Int) := by
  have hc := c.toNat_lt
  rw [show ((c.toNat : Int) % 4294967296) = ((c.toNat : Nat) : Int) from by omega]
  exact xorN _ _ h (by omega)

theorem crc_end {s : ByteArray} {k r : Nat} (h : r = crcReg (s.data.toList.take k) 4294967295) (hk : k ≤ s.size) (hlt : ¬ k < s.size) : 4294967295 ^^^ r = crc s.data.toList := by
  rw [h, List.take_of_length_le (by simp; omega)]; rfl
theorem xorMax {s : ByteArray} {k r : Nat} (h : r = crcReg (s.data.toList.take k) 4294967295) (hr : r < 4294967296) (hk : k ≤ s.size) (hlt : ¬ k < s.size) :
    bits BinOp.xor IntKind.u32 IntKind.u32.max (r : Int) = (crc s.data.toList : Nat) := by
  have e : IntKind.u32.max = ((4294967295 : Nat) : Int) := by decide
  rw [e, xorN _ _ (by decide) hr, crc_end h hk hlt]
set_option maxHeartbeats 400000 in
theorem sum32_any (s : ByteArray) (w : World) (hs : s.size ≤ maxLen) :
    Calls Try.prog 78 #[.string s] w fun e w' => e = .returned (.int .u32 (crc s.data.toList : Nat)) ∧ w = w' := by
  unfold maxLen at hs
  go_enter Try.func78, Try.ntmps78
  go_wp2
  go_loop [3, 4, 7] (fun n _ i => ∃ k r : Nat, k ≤ s.size ∧ i = .int .i64 k ∧ n = .int .u32 (r : Nat) ∧ r < 4294967296 ∧ Hid (r = crcReg (s.data.toList.take k) 4294967295)) (fun _ _ i => s.size - (intOf i).toNat)
  case atStart => exact ⟨0, 4294967295, Nat.zero_le _, rfl, rfl, by decide, rfl⟩
  case round =>
    obtain ⟨k, r, hk, rfl, rfl, hr, HR⟩ := hrel
    by_cases hlt : k < s.size
    · obtain ⟨c, hc⟩ : ∃ c, c = s[k] := ⟨_, rfl⟩
      have hx := xorByte r s[k] hr
      rw [← hc] at hx
      have HX := Lib.hid hx
      have HT : Hid (crcReg (s.data.toList.take (k + 1)) 4294967295 = byteStep r c.toNat) := by
        have := List.take_succ_eq_append_getElem (l := s.data.toList) (i := k) (by simpa using hlt)
        unfold Hid
        rw [this, crcReg_snoc, HR.out, hc]; rfl
      clear hx
      have HC := Lib.hid hc
      clear hc
      go_wp2
      rw [← HC.out]
      go_loop [3, 16] (fun n i => ∃ j x : Nat, j ≤ 8 ∧ i = .int .i64 j ∧ n = .int .u32 (x : Nat) ∧ x < 4294967296 ∧ Hid (x = stepIter j (r ^^^ c.toNat))) (fun _ i => 8 - (intOf i).toNat)
      case atStart =>
        exact ⟨0, r ^^^ c.toNat, by omega, rfl, by rw [HX.out], Nat.xor_lt_two_pow (n := 32) hr (by have := c.toNat_lt; omega), rfl⟩
      case round =>
        obtain ⟨j, x, hj, rfl, rfl, hx, HXX⟩ := hrel
        by_cases hj8 : j < 8
        · go_wp2_with (go_at_call 99; refine (step_any _ (by omega) (by omega) _).mono ?_; rintro e w' ⟨rfl, rfl⟩)
          go_round
          case rel => exact ⟨j + 1, stp x, by omega, by go_num, by rfl, stp_lt hx, by rw [HXX.out]; rfl⟩
          case measure => simp [intOf]; omega
        · go_wp2
          go_round
          case rel => exact ⟨k + 1, x, by omega, by go_num, rfl, hx, by rw [HT.out, HXX.out, show j = 8 by omega]; rfl⟩
          case measure => simp [intOf]; omega
    · go_wp2
      go_ret
      exact ⟨ret_int (xorMax HR.out hr hk hlt), rfl⟩


theorem andShift (c : UInt8) (j : Nat) : bits BinOp.and IntKind.u32 ((c.toNat : Int) / 2 ^ j % 4294967296) 1 = ((c.toNat / 2 ^ j % 2 : Nat) : Int) := by
  have hc := c.toNat_lt
  have hle : c.toNat / 2 ^ j ≤ c.toNat := Nat.div_le_self _ _
  have e : ((c.toNat : Int) / 2 ^ j % 4294967296) = ((c.toNat / 2 ^ j : Nat) : Int) := by
    have h2 : ((c.toNat / 2 ^ j : Nat) : Int) = (c.toNat : Int) / 2 ^ j := by simp
    rw [← h2]
    generalize c.toNat / 2 ^ j = y at *
    omega
  rw [e]
  generalize c.toNat / 2 ^ j = y at *
  exact and1 _ (by omega)
theorem bitTest_yes {x j : Nat} {c : UInt8} (hx : x < 4294967296) (h : x % 2 ≠ c.toNat / 2 ^ j % 2) :
    (bits BinOp.and IntKind.u32 (x : Int) 1 != bits BinOp.and IntKind.u32 ((c.toNat : Int) / 2 ^ j % 4294967296) 1) = true := by
  rw [andShift, and1 x hx, bne_iff_ne]
  intro h2
  exact h (Int.ofNat_inj.1 h2)
theorem bitTest_no {x j : Nat} {c : UInt8} (hx : x < 4294967296) (h : x % 2 = c.toNat / 2 ^ j % 2) :
    (bits BinOp.and IntKind.u32 (x : Int) 1 != bits BinOp.and IntKind.u32 ((c.toNat : Int) / 2 ^ j % 4294967296) 1) = false := by
  rw [andShift, and1 x hx, h]; simp
theorem bit_end {s : ByteArray} {k r x j : Nat} (hlt : k < s.size) (HT : crcReg (s.data.toList.take (k + 1)) 4294967295 = byteStep r s[k].toNat) (hx : x = bitIter s[k].toNat j r) (hj : j ≤ 8) (hj8 : ¬ j < 8) :
    x = crcReg (s.data.toList.take (k + 1)) 4294967295 := by
  have h8 : j = 8 := by omega
  rw [HT, hx, h8, bitIter_byte _ _ (UInt8.toNat_lt _)]
theorem crc_out {s : ByteArray} {k r : Nat} (h : r = crcReg (s.data.toList.take k) 4294967295) (hr : r < 4294967296) (hk : k ≤ s.size) (hlt : ¬ k < s.size) :
    bits BinOp.xor IntKind.u32 4294967295 (r : Int) = (crc s.data.toList : Nat) := by
  rw [← crc_end h hk hlt]; exact xorN 4294967295 r (by decide) hr
theorem bitIter_lt {b : Nat} {r : Nat} (h : r < 4294967296) : ∀ k, bitIter b k r < 4294967296
  | 0 => h
  | k + 1 => by
    show bitStep _ _ < _
    rw [bitStep_eq (Nat.mod_lt _ (by decide))]
    exact stp_lt (Nat.xor_lt_two_pow (n := 32) (bitIter_lt h k) (by have := Nat.mod_lt (b / 2 ^ k) (show 0 < 2 by decide); omega))

set_option maxHeartbeats 800000 in
theorem rsum32_any (s : ByteArray) (w : World) (hs : s.size ≤ maxLen) :
    Calls Try.prog 45 #[.string s] w fun e w' => e = .returned (.int .u32 (crc s.data.toList : Nat)) ∧ w = w' := by
  unfold maxLen at hs
  go_enter Try.func45, Try.ntmps45
  go_wp2
  go_loop [3, 4, 5, 6] (fun n i _ _ => ∃ k r : Nat, k ≤ s.size ∧ i = .int .i64 k ∧ n = .int .u32 (r : Nat) ∧ r < 4294967296 ∧ Hid (r = crcReg (s.data.toList.take k) 4294967295)) (fun _ i _ _ => s.size - (intOf i).toNat)
  case atStart => exact ⟨0, 4294967295, Nat.zero_le _, rfl, rfl, by decide, rfl⟩
  case round =>
    obtain ⟨k, r, hk, rfl, rfl, hr, HR⟩ := hrel
    by_cases hlt : k < s.size
    · have HT : Hid (crcReg (s.data.toList.take (k + 1)) 4294967295 = byteStep r s[k].toNat) := by
        have := List.take_succ_eq_append_getElem (l := s.data.toList) (i := k) (by simpa using hlt)
        unfold Hid
        rw [this, crcReg_snoc, HR.out]; rfl
      go_wp2
      go_loop [3, 5, 6] (fun n i _ => ∃ j x : Nat, j ≤ 8 ∧ i = .int .i64 j ∧ n = .int .u32 (x : Nat) ∧ x < 4294967296 ∧ Hid (x = bitIter s[k].toNat j r)) (fun _ i _ => 8 - (intOf i).toNat)
      case atStart =>
        exact ⟨0, r, by omega, rfl, rfl, hr, rfl⟩
      case round =>
        obtain ⟨j, x, hj, rfl, rfl, hx, HXX⟩ := hrel
        by_cases hj8 : j < 8
        · by_cases hb : x % 2 = s[k].toNat / 2 ^ j % 2
          · have hno := bitTest_no hx hb
            have HE : Hid ((x : Int) / 2 = ((bitIter s[k].toNat (j + 1) r : Nat) : Int)) := by
              show _ = ((bitStep _ _ : Nat) : Int)
              rw [← HXX.out]; unfold bitStep; rw [if_neg (by omega)]; omega
            have HL : bitIter s[k].toNat (j + 1) r < 4294967296 := bitIter_lt hr _
            clear hb
            go_wp2
            go_round
            case rel => exact ⟨j + 1, _, by omega, by go_num, by rw [HE.out], HL, rfl⟩
            case measure => simp [intOf]; omega
          · have hyes := bitTest_yes hx hb
            have HE : Hid (bits BinOp.xor IntKind.u32 ((x : Int) / 2) 3988292384 = ((bitIter s[k].toNat (j + 1) r : Nat) : Int)) := by
              show _ = ((bitStep _ _ : Nat) : Int)
              rw [← HXX.out]; unfold bitStep; rw [if_pos (by omega)]
              rw [show ((x : Int) / 2) = ((x / 2 : Nat) : Int) from by omega]; exact xorN _ _ (by omega) (by decide)
            have HL : bitIter s[k].toNat (j + 1) r < 4294967296 := bitIter_lt hr _
            clear hb
            go_wp2
            go_round
            case rel => exact ⟨j + 1, _, by omega, by go_num, by rw [HE.out], HL, rfl⟩
            case measure => simp [intOf]; omega
        · go_wp2
          go_round
          case rel => exact ⟨k + 1, x, by omega, by go_num, rfl, hx, bit_end hlt HT.out HXX.out hj hj8⟩
          case measure => simp [intOf]; omega
    · go_wp2
      go_ret
      exact ⟨ret_int (crc_out HR.out hr hk hlt), rfl⟩

theorem numS_nil : (0 : Int) = numS [] := by simp [numS, be, wrap64]
theorem num_step {s : ByteArray} {k : Nat} (hlt : k < s.size) : numS (s.data.toList.take (k + 1)) = wrap64 (numS (s.data.toList.take k) * 256 + (s[k].toNat : Nat)) := by
  have h := List.take_succ_eq_append_getElem (l := s.data.toList) (i := k) (by simpa using hlt)
  unfold numS
  rw [h, be_snoc, wrap_mul, Int.natCast_add, Int.natCast_mul]; rfl
theorem num_end {s : ByteArray} {k : Nat} (hk : k ≤ s.size) (hlt : ¬ k < s.size) : s.data.toList.take k = s.data.toList := List.take_of_length_le (by simp; omega)

set_option maxHeartbeats 400000 in
theorem number_any (s : ByteArray) (w : World) (hs : s.size ≤ maxLen) :
    Calls Try.prog 82 #[.string s] w fun e w' => e = .returned (.int .i64 (numS s.data.toList)) ∧ w = w' := by
  unfold maxLen at hs
  go_enter Try.func82, Try.ntmps82
  go_wp2
  go_loop [3, 4, 7] (fun n _ i => ∃ (k : Nat) (r : Int), k ≤ s.size ∧ i = .int .i64 k ∧ n = .int .i64 r ∧ Hid (r = numS (s.data.toList.take k))) (fun _ _ i => s.size - (intOf i).toNat)
  case atStart => exact ⟨0, 0, Nat.zero_le _, rfl, rfl, numS_nil⟩
  case round =>
    obtain ⟨k, r, hk, rfl, rfl, HR⟩ := hrel
    by_cases hlt : k < s.size
    · have HE : Hid (bits BinOp.or IntKind.i64 (wrap64 (r * 256)) (wrap64 (s[k].toNat : Int)) = numS (s.data.toList.take (k + 1))) := by
        unfold Hid; rw [or64 _ _ (UInt8.toNat_lt _), num_step hlt, HR.out]
      go_wp2
      go_round
      case rel => exact ⟨k + 1, _, by omega, by go_num, by rw [HE.out], rfl⟩
      case measure => simp [intOf]; omega
    · go_wp2
      go_ret
      exact ⟨ret_int (by rw [HR.out, num_end hk hlt]), rfl⟩

theorem new_any (s : ByteArray) (w : World) :
    Calls Try.prog 46 #[.string s] w fun e w' => e = .returned (.pointer (some ⟨w.heap.size, 0, none⟩)) ∧ w' = w.alloc (.cells #[.string s, .int .i64 0, .int .i64 0] 121) := by
  go_enter Try.func46, Try.ntmps46
  go_wp2
  go_ret
  exact ⟨rfl, rfl⟩

end Go.Proofs.Ytnecbbflcpngcaa.Cd
