/- The document's bytes of a block, and what it says of a sector: what each call returns. Conditions: strings are no longer than a machine holds. -/
import Derived.Test.YtnecbbflcpngcaaFxe
namespace Go.Proofs.Ytnecbbflcpngcaa
open Go.RowKit Go.Maps
set_option maxRecDepth 20000
set_option linter.unusedVariables false

theorem be_step {s : ByteArray} {k : Nat} (hlt : k < s.size) : Cd.be (s.data.toList.take (k + 1)) = Cd.be (s.data.toList.take k) * 256 + (s[k]'hlt).toNat := by
  have h := List.take_succ_eq_append_getElem (l := s.data.toList) (i := k) (by simpa using hlt)
  rw [h, Cd.be_snoc]; rfl
theorem be8 (l : Bts) (h : l.length ≤ 8) : Cd.be l < 18446744073709551616 := by
  have h1 := Cd.be_lt l
  have h2 : 256 ^ l.length ≤ 256 ^ 8 := Nat.pow_le_pow_right (by decide) h
  have h3 : (256 : Nat) ^ 8 = 18446744073709551616 := by decide
  omega
set_option maxHeartbeats 800000 in
theorem value_any (s : ByteArray) (w : World) (hs : s.size ≤ 8) :
    Calls Try.prog 49 #[.string s] w fun e w' => e = .returned (.int .u64 ((Cd.be s.data.toList : Nat) : Int)) ∧ w = w' := by
  go_enter Try.func49, Try.ntmps49
  go_wp2
  go_loop [3, 4] (fun n i => ∃ (k r : Nat), k ≤ s.size ∧ i = .int .i64 (k : Int) ∧ n = .int .u64 (r : Int) ∧ Hid (r = Cd.be (s.data.toList.take k))) (fun _ i => s.size - (intOf i).toNat)
  case atStart => exact ⟨0, 0, Nat.zero_le _, rfl, rfl, rfl⟩
  case round =>
    obtain ⟨k, r, hk, rfl, rfl, HR⟩ := hrel
    by_cases hlt : k < s.size
    · have HE := Lib.hid (be_step hlt)
      have hl : (s.data.toList.take (k + 1)).length ≤ 8 := by rw [List.length_take]; omega
      have hb := be8 _ hl
      rw [HE.out, ← HR.out] at hb
      go_wp2
      exact ⟨⟨k + 1, r * 256 + s[k].toNat, by omega, by go_num, by congr 1; omega, by unfold Hid; rw [HE.out, HR.out]⟩, by simp [intOf]; omega⟩
    · have hkk : k = s.size := by omega
      go_wp2
      go_ret
      refine ⟨?_, rfl⟩
      rw [HR.out, hkk, List.take_of_length_le (by rw [baList]; omega)]
      rfl
theorem divp (n k : Nat) : n / 256 ^ k / 256 = n / 256 ^ (k + 1) := by rw [Nat.div_div_eq_div_mul, Nat.pow_succ]
theorem putS_cons (n k : Nat) : Cd.putS (n : Int) (k + 1) = UInt8.ofNat (n / 256 ^ k % 256) :: Cd.putS (n : Int) k := by
  show Cd.byteOf ((n : Int) / 256 ^ k) :: _ = _
  congr 1
theorem one_byte (W : World) (v : Nat) (hv : v < 256) : (convert 30 9 (.slice (some ⟨W.heap.size, 0, none⟩) 1 1)).run Try.prog (W.alloc (.cells #[.int .u8 (v : Int)] 5)) = .ok (.string (ofL [UInt8.ofNat v])) (W.alloc (.cells #[.int .u8 (v : Int)] 5)) := by
  have := run_convert_bytes_back (P := Try.prog) (W.alloc (.cells #[.int .u8 (v : Int)] 5)) 30 9 5 ⟨W.heap.size, 0, none⟩ 1 [UInt8.ofNat v] Try.underlying30 Try.underlying5 Try.underlying9 (fun j hj => by
    have : j = 0 := by simpa using hj
    subst this
    rw [addr_at, cell_of_row _ _ _ _ _ _ (block_new W _)]
    have : (UInt8.ofNat v).toNat = v := by rw [UInt8.toNat_ofNat', Nat.mod_eq_of_lt hv]
    simp [this])
  exact this
set_option maxHeartbeats 1600000 in
theorem number_any' (n m : Nat) (w : World) (hn : n < 9223372036854775808) (hm : m ≤ 8) :
    Calls Try.prog 44 #[.int .i64 (n : Int), .int .i64 (m : Int)] w fun e w' => e = .returned (.string (ofL (Cd.putS (n : Int) m))) ∧ Below w.heap.size w w' := by
  have HN := Lib.hid hn
  clear hn
  go_enter Try.func44, Try.ntmps44
  go_wp2
  go_loopw [0, 5, 6] (fun x5 xs i wr => ∃ (k r : Nat) (t : ByteArray), k ≤ m ∧ i = .int .i64 (k : Int) ∧ xs = .string t ∧ x5 = .int .i64 (r : Int) ∧ Hid (r = n / 256 ^ k) ∧ Hid (t = ofL (Cd.putS (n : Int) k)) ∧ Hid (Below w.heap.size w wr)) (fun _ _ i _ => m - (intOf i).toNat)
  case atStart => exact ⟨0, n, _, Nat.zero_le _, rfl, rfl, rfl, by unfold Hid; simp, rfl, Below.refl _ w⟩
  case round =>
    obtain ⟨k, r, t, hk, rfl, rfl, rfl, HR, HT, HB⟩ := hrel
    by_cases hlt : k < m
    · have hki : (k : Int) < (m : Int) := by omega
      have ht : t.size = k := by rw [HT.out, ofL_size, Cd.putS_length]
      have hcv := one_byte wr (r % 256) (by omega)
      have hr : (r : Int) < 9223372036854775808 := by
        have : r ≤ n := by rw [HR.out]; exact Nat.div_le_self _ _
        have := HN.out
        omega
      go_wp2
      rw [show ((r % 256 : Nat) : Int) = (r : Int) % 256 by omega] at hcv
      obtain ⟨b1, hb1⟩ : ∃ b, b = ofL [UInt8.ofNat (r % 256)] := ⟨_, rfl⟩
      rw [← hb1] at hcv
      have hb1s : b1.size = 1 := by rw [hb1, ofL_size]; rfl
      obtain ⟨t', ht'⟩ : ∃ t', b1 ++ t = t' := ⟨_, rfl⟩
      have HT' : Hid (t' = ofL (Cd.putS (n : Int) (k + 1))) := by
        unfold Hid
        rw [← ht', hb1, HT.out, putS_cons, ← HR.out]
        apply ByteArray.ext
        apply Array.ext'
        simp [ofL]
      have HR' : Hid (r / 256 = n / 256 ^ (k + 1)) := by unfold Hid; rw [HR.out, divp]
      have HQ : Hid (((r : Int) / 256) = ((r / 256 : Nat) : Int)) := by unfold Hid; omega
      have hm1 : ¬ (9223372036854775807 : Int) < ((b1.size : Int) + (t.size : Int)) := by omega
      have hm2 : ¬ 9223372036854775807 < b1.size + t.size := by omega
      have HB' : Hid (Below w.heap.size w (wr.alloc (.cells #[.int .u8 ((r : Int) % 256)] 5))) := HB.out.alloc HB.out.size _
      clear hb1 hr
      have HRL : Hid ((r : Int) < 9223372036854775808) := by
        unfold Hid
        have : r ≤ n := by rw [HR.out]; exact Nat.div_le_self _ _
        have := HN.out
        omega
      go_wp2
      refine ⟨⟨k + 1, r / 256, t', by omega, by go_num, rfl, ?_, HR'.out, HT'.out, HB'.out⟩, by simp [intOf]; omega⟩
      congr 1
      rw [HQ.out]
      have := HRL.out
      unfold wrap64; omega
    · have hkk : k = m := by omega
      subst hkk
      go_wp2
      go_ret
      exact ⟨by rw [HT.out]; rfl, HB.out⟩
theorem pad_any (s : ByteArray) (w : World) (hs : s.size ≤ 116) :
    Calls Try.prog 43 #[.string s] w fun e w' => e = .returned (.string (ofL (padB s.data.toList))) ∧ Below w.heap.size w w' := by
  obtain ⟨z, hz⟩ : ∃ z, z = 116 - s.size := ⟨_, rfl⟩
  have hm := make57 z (by omega) w
  have hr := RowB.zeros w z (by unfold maxLen; omega)
  have hb : Below w.heap.size w (w.alloc (.cells (List.replicate z (Value.int .u8 0)).toArray 5)) := (Below.refl _ w).alloc (Nat.le_refl _) _
  obtain ⟨W, hW⟩ : ∃ W, W = w.alloc (.cells (List.replicate z (Value.int .u8 0)).toArray 5) := ⟨_, rfl⟩
  rw [← hW] at hm hr hb
  have hcv := hr.string (w' := W) 0 z z (by simp)
  rw [List.drop_zero, List.take_of_length_le (by simp)] at hcv
  obtain ⟨Z, hZ⟩ : ∃ Z, Z = ofL (List.replicate z 0) := ⟨_, rfl⟩
  rw [← hZ] at hcv
  have hZs : Z.size = z := by rw [hZ, ofL_size, List.length_replicate]
  have hcat : s ++ Z = ofL (padB s.data.toList) := by
    unfold padB
    rw [baList, ← hz, hZ]
    apply ByteArray.ext
    apply Array.ext'
    simp [ofL]
  have hwz : (116 : Int) - (s.size : Int) = (z : Int) := by omega
  have hm1 : ¬ (9223372036854775807 : Int) < ((s.size : Int) + (Z.size : Int)) := by omega
  have hm2 : ¬ 9223372036854775807 < s.size + Z.size := by omega
  generalize ofL (padB s.data.toList) = P at *
  clear hW hr hZ hz
  go_enter Try.func43, Try.ntmps43
  go_wp2
  go_ret
  exact ⟨rfl, hb⟩
theorem numS_be (l : Bts) (h : l.length = 8) : stOk (Cd.numS l) ↔ ((Cd.be l : Nat) : Int) ≤ 4611686018427387904 := by
  have hb := be8 l (by omega)
  unfold stOk Cd.numS wrap64
  omega
theorem numS_val (l : Bts) (h : ((Cd.be l : Nat) : Int) ≤ 4611686018427387904) : Cd.numS l = ((Cd.be l : Nat) : Int) := by
  unfold Cd.numS wrap64; omega
theorem sum_be (c d : Bts) (h : c.length = 4) : c = sumB d ↔ Cd.be c = Cd.crc d := by
  have hc := Cd.crc_lt d
  constructor
  · intro e
    have := Cd.be_putS ((Cd.crc d : Nat) : Int) 4
    have e4 : (256 : Int) ^ 4 = 4294967296 := by decide
    rw [e4] at this
    have e5 : sumB d = Cd.putS ((Cd.crc d : Nat) : Int) 4 := rfl
    rw [← e5, ← e] at this
    omega
  · intro e
    have := Cd.putS_be c
    rw [h, e] at this
    exact this.symm
set_option maxHeartbeats 1600000 in
theorem rbytes_any (d : ByteArray) (n : Int) (w : World) (hs : d.size ≤ 281474976710656) :
    Calls Try.prog 11 #[.string d, .int .i64 n] w fun e w' => e = .returned (.tuple #[.string (ofL (bytS d.data.toList n)), .int .i64 (bytE d.data.toList n)]) ∧ Below w.heap.size w w' := by
  have hl : d.data.toList.length = d.size := baList d
  by_cases a : 116 < d.size
  · have e1 : bytE d.data.toList n = 152 := by unfold bytE; rw [if_pos (by omega)]
    have e2 : bytS d.data.toList n = [] := by unfold bytS; rw [e1]; rfl
    rw [e1, e2]
    clear hl hs
    go_enter Try.func11, Try.ntmps11
    go_wp2
    go_ret2
    exact ⟨rfl, Below.refl _ _⟩
  · by_cases b : stOk n
    · have e1 : bytE d.data.toList n = 0 := bytE_of (by omega) b
      have e2 := bytS_of e1
      rw [e1, e2]
      obtain ⟨P, hP⟩ : ∃ P, P = ofL (padB d.data.toList) := ⟨_, rfl⟩
      have hPl : P.data.toList = padB d.data.toList := by rw [hP, ofL_list]
      have hPs : P.size = 116 := by rw [← baList, hPl]; exact padB_len (by omega)
      have kp : Hid (∀ W, Calls Try.prog 43 #[.string d] W fun e w' => e = .returned (.string P) ∧ Below W.heap.size W w') := fun W => by rw [hP]; exact pad_any d W (by omega)
      obtain ⟨C, hC⟩ : ∃ C : Int, C = ((Cd.crc P.data.toList : Nat) : Int) := ⟨_, rfl⟩
      have hcl := Cd.crc_lt P.data.toList
      have ks : Hid (∀ W, Calls Try.prog 45 #[.string P] W fun e w' => e = .returned (.int .u32 C) ∧ W = w') := fun W => by rw [hC]; exact Cd.rsum32_any P W (by rw [hPs]; unfold maxLen; omega)
      have hw : wrap64 C = C := by unfold wrap64; omega
      obtain ⟨Q, hQ⟩ : ∃ Q, Q = ofL (sumB P.data.toList) := ⟨_, rfl⟩
      have hQs : Q.size = 4 := by rw [hQ, ofL_size, sumB_len]
      have k4 : Hid (∀ W, Calls Try.prog 44 #[.int .i64 C, .int .i64 4] W fun e w' => e = .returned (.string Q) ∧ Below W.heap.size W w') := fun W => by
        rw [hC, hQ]; exact number_any' (Cd.crc P.data.toList) 4 W (by omega) (by omega)
      obtain ⟨T, hT⟩ : ∃ T, T = ofL (Cd.putS n 8) := ⟨_, rfl⟩
      have hTs : T.size = 8 := by rw [hT, ofL_size, Cd.putS_length]
      have k8 : Hid (∀ W, Calls Try.prog 44 #[.int .i64 n, .int .i64 8] W fun e w' => e = .returned (.string T) ∧ Below W.heap.size W w') := fun W => by
        have hb := b
        unfold stOk at hb
        have := number_any' n.toNat 8 W (by omega) (by omega)
        rw [Int.toNat_of_nonneg hb.1] at this
        rw [hT]; exact this
      obtain ⟨R1, hR1⟩ : ∃ R, P ++ Q = R := ⟨_, rfl⟩
      have hR1s : R1.size = 120 := by rw [← hR1, ByteArray.size_append, hPs, hQs]
      obtain ⟨R2, hR2⟩ : ∃ R, R1 ++ T = R := ⟨_, rfl⟩
      have hfin : Hid (ofL (blkB d.data.toList n) = R2) := by
        unfold Hid
        rw [← hR2, ← hR1, hQ, hT, hPl, hP]
        unfold blkB
        apply ByteArray.ext
        apply Array.ext'
        simp [ofL]
      rw [hfin.out]
      have hm1 : ¬ (9223372036854775807 : Int) < ((P.size : Int) + (Q.size : Int)) := by omega
      have hm2 : ¬ 9223372036854775807 < P.size + Q.size := by omega
      have hm3 : ¬ (9223372036854775807 : Int) < ((R1.size : Int) + (T.size : Int)) := by omega
      have hm4 : ¬ 9223372036854775807 < R1.size + T.size := by omega
      unfold stOk at b
      obtain ⟨b1, b2⟩ := b
      have hda : d.size ≤ 116 := by omega
      clear hl e1 e2 hP hPl hC hcl hQ hT hs
      go_enter Try.func11, Try.ntmps11
      go_wp2_with (first
        | (go_at_call 43; refine (kp.out _).mono ?_; rintro e w2 ⟨rfl, hb2⟩)
        | (go_at_call 45; refine (ks.out _).mono ?_; rintro e w3 ⟨rfl, rfl⟩)
        | (go_at_call 44; (with_reducible refine (k4.out _).mono ?_); rintro e w4 ⟨rfl, hb4⟩)
        | (go_at_call 44; (with_reducible refine (k8.out _).mono ?_); rintro e w5 ⟨rfl, hb5⟩))
      go_ret2
      exact ⟨rfl, below_trans (below_trans hb2 hb4) hb5⟩
    · have e1 : bytE d.data.toList n = 1 := by unfold bytE; rw [if_neg (by omega), if_neg b]
      have e2 : bytS d.data.toList n = [] := by unfold bytS; rw [e1]; rfl
      rw [e1, e2]
      have hda : d.size ≤ 116 := by omega
      unfold stOk at b
      clear hl hs e1 e2
      by_cases r : n < 0
      · clear b
        go_enter Try.func11, Try.ntmps11
        go_wp2
        go_ret2
        exact ⟨rfl, Below.refl _ _⟩
      · have r2 : 4611686018427387904 < n := by omega
        clear b
        go_enter Try.func11, Try.ntmps11
        go_wp2
        go_ret2
        exact ⟨rfl, Below.refl _ _⟩
end Go.Proofs.Ytnecbbflcpngcaa
