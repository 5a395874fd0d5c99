/- BlockBack's walk: a block's bytes are read as its data and its stamp, one bit turned is told. Conditions: ints are within 64 bits, a string is no longer than a machine holds. -/
import Derived.Test.YtnecbbflcpngcaaFxe
namespace Go.Proofs.Ytnecbbflcpngcaa
open Go.RowKit Go.Maps Go.Lib
set_option maxRecDepth 20000
set_option linter.unusedVariables false

theorem xor_ne (a : UInt8) (k : Nat) : UInt8.ofNat (a.toNat ^^^ 2 ^ (k % 8)) ≠ a := by
  intro e
  have h1 : (UInt8.ofNat (a.toNat ^^^ 2 ^ (k % 8))).toNat = a.toNat ^^^ 2 ^ (k % 8) := by rw [UInt8.toNat_ofNat', Nat.mod_eq_of_lt (Cd.xor_lt _ _)]
  rw [e] at h1
  have h2 : a.toNat ^^^ a.toNat = a.toNat ^^^ (a.toNat ^^^ 2 ^ (k % 8)) := by rw [← h1]
  rw [Nat.xor_self, ← Nat.xor_assoc, Nat.xor_self, Nat.zero_xor] at h2
  have := Nat.two_pow_pos (k % 8)
  omega
theorem flip_take (l : Bts) (k n : Nat) (h : k < 8 * n) (hl : n ≤ l.length) : (Cd.flip l k).take n = Cd.flip (l.take n) k := by
  unfold Cd.flip
  rw [List.take_set, List.getD_eq_getElem?_getD, List.getD_eq_getElem?_getD, List.getElem?_take, if_pos (by omega)]
theorem flip_take_off (l : Bts) (k n : Nat) (h : 8 * n ≤ k) : (Cd.flip l k).take n = l.take n := by
  unfold Cd.flip
  rw [List.take_set, List.set_eq_of_length_le (by rw [List.length_take]; omega)]
theorem flip_drop_off (l : Bts) (k n : Nat) (h : k < 8 * n) : (Cd.flip l k).drop n = l.drop n := by
  unfold Cd.flip
  rw [List.drop_set, if_pos (by omega)]
theorem flip_get (l : Bts) (k : Nat) (h : k / 8 < l.length) : (Cd.flip l k)[k / 8]? ≠ l[k / 8]? := by
  unfold Cd.flip
  rw [List.getElem?_set_self h, List.getElem?_eq_getElem h]
  intro e
  injection e with e
  rw [List.getD_eq_getElem?_getD, List.getElem?_eq_getElem h] at e
  exact xor_ne _ k e
/-- one turned bit of data or sum is told -/
theorem par_flip {d : Bts} {n : Int} (hd : d.length ≤ 116) (k : Nat) (hk : k < 960) : parE (Cd.flip (blkB d n) k) = 153 := by
  have hl := blkB_len n hd
  have hfl : (Cd.flip (blkB d n) k).length = 128 := by rw [Cd.flip_length, hl]
  unfold parE
  rw [if_neg (by omega)]
  apply if_neg
  rintro ⟨h, _⟩
  by_cases q : k < 928
  · rw [flip_take _ k 116 (by omega) (by omega), flip_drop_off _ k 116 (by omega), blkB_take n hd, blkB_mid n hd] at h
    have h1 := sumB_inj h
    exact Cd.crc_flip (padB d) k (by rw [padB_len hd]; omega) h1.symm
  · rw [flip_take_off _ k 116 (by omega), blkB_take n hd, ← blkB_mid n hd] at h
    have h1 := congrArg (fun l => l[k / 8 - 116]?) h
    simp only [List.getElem?_take, List.getElem?_drop] at h1
    rw [if_pos (by omega), if_pos (by omega), show 116 + (k / 8 - 116) = k / 8 by omega] at h1
    exact flip_get _ k (by omega) h1
def turned (l : Bts) (k : Nat) : UInt8 := UInt8.ofNat ((l.getD (k / 8) 0).toNat ^^^ 2 ^ (k % 8))
theorem turned_eq (l : Bts) (k : Nat) (h : k / 8 < l.length) : bits BinOp.xor IntKind.u8 ((l.getD (k / 8) 0).toNat : Int) (2 ^ (k % 8) % 256) = ((turned l k).toNat : Int) := by
  unfold turned
  rw [UInt8.toNat_ofNat', Nat.mod_eq_of_lt (Cd.xor_lt _ _)]
  have h2 : ((2 : Int) ^ (k % 8) % 256) = ((2 ^ (k % 8) : Nat) : Int) := by
    have := Cd.pow_lt k
    have h3 : ((2 ^ (k % 8) : Nat) : Int) = (2 : Int) ^ (k % 8) := by simp
    rw [← h3]; generalize 2 ^ (k % 8) = y at *; omega
  rw [h2]
  exact u8_xor_nat _ _ (l.getD (k / 8) 0).toNat_lt (Cd.pow_lt k)
set_option maxHeartbeats 4000000 in
theorem back_any (d : ByteArray) (n bit : Int) (w : World) (hs : d.size ≤ 140737488351232) (hn : In64 n) (hb : In64 bit) :
    Calls Try.prog 4 #[.string d, .int .i64 n, .int .i64 bit] w fun e w' => e = .returned (.bool true) ∧ Below w.heap.size w w' := by
  have kb := bytes_any d n w (by omega)
  have kf : Hid (∀ W, Calls Try.prog 14 #[] W fun e w' => e = .returned (.bool true) ∧ Below W.heap.size W w') := fun W => fixed_any W
  have hdl : d.data.toList.length = d.size := baList d
  by_cases a : 116 < d.size
  · have e1 : bytE d.data.toList n = 152 := by unfold bytE; rw [if_pos (by omega)]
    rw [e1] at kb
    generalize bytS d.data.toList n = S at *
    clear e1 hdl hs
    go_enter Try.func4, Try.ntmps4
    go_wp2_with (first
      | (go_at_call 10; refine kb.mono ?_; rintro e w1 ⟨rfl, hb1⟩)
      | (go_at_call 14; refine (kf.out _).mono ?_; rintro e w2 ⟨rfl, hb2⟩))
    go_ret
    exact ⟨rfl, below_trans hb1 hb2⟩
  · by_cases q : stOk n
    · have e1 : bytE d.data.toList n = 0 := bytE_of (by omega) q
      rw [e1, bytS_of e1] at kb
      obtain ⟨L, hL⟩ : ∃ L, L = blkB d.data.toList n := ⟨_, rfl⟩
      have hLl : L.length = 128 := by rw [hL]; exact blkB_len n (by omega)
      have kp : Hid (∀ W, Calls Try.prog 12 #[.string (ofL L)] W fun e w' => e = .returned (.tuple #[.string (ofL (padB d.data.toList)), .int .i64 n, .int .i64 0]) ∧ Below W.heap.size W w') := fun W => by
        have := parse_any (ofL L) W (by rw [ofL_size]; omega)
        rw [ofL_list, hL, par_blk (by omega) q, parD_blk (by omega) q, parN_blk (by omega) q] at this
        rw [hL]; exact this
      rw [← hL] at kb
      obtain ⟨T, hT⟩ : ∃ T, T = ofL (padB d.data.toList) := ⟨_, rfl⟩
      have hTl : T.data.toList = padB d.data.toList := by rw [hT, ofL_list]
      have hTs : T.size = 116 := by rw [← baList, hTl]; exact padB_len (by omega)
      rw [← hT] at kp
      obtain ⟨z, hz⟩ : ∃ z, z = 116 - d.size := ⟨_, rfl⟩
      obtain ⟨Z, hZ⟩ : ∃ Z, Z = ofL (List.replicate z 0) := ⟨_, rfl⟩
      have kz : Hid (∀ W, Calls Try.prog 15 #[.int .i64 (z : Int)] W fun e w' => e = .returned (.string Z) ∧ Below W.heap.size W w') := fun W => by rw [hZ]; exact noughts_any z (by omega) W
      have hx1 : T.extract 0 d.size = d := by
        have : (T.extract 0 d.size).data.toList = d.data.toList := by
          rw [bsub_list, List.drop_zero, Nat.sub_zero, hTl]; unfold padB
          rw [List.take_append_of_le_length (by omega), List.take_of_length_le (by omega)]
        rw [← ofL_of (T.extract 0 d.size), this, ofL_of]
      have hx2 : T.extract d.size 116 = Z := by
        have : (T.extract d.size 116).data.toList = List.replicate z 0 := by
          rw [bsub_list, hTl]; unfold padB
          rw [List.drop_append, List.drop_of_length_le (by omega), List.nil_append, hdl, Nat.sub_self, List.drop_zero, List.take_of_length_le (by rw [List.length_replicate]; omega), hz]
        rw [← ofL_of (T.extract d.size 116), this, hZ]
      have hwz : IntKind.i64.wrap (z : Int) = (z : Int) := by rw [IntKind.wrap_i64]; omega
      have hwz2 : (116 : Int) - (d.size : Int) = (z : Int) := by omega
      obtain ⟨s, hsE⟩ : ∃ s, s = ofL L := ⟨_, rfl⟩
      have hss : s.size = 128 := by rw [hsE, ofL_size, hLl]
      have hsd : s.data.toList = L := by rw [hsE, ofL_list]
      rw [← hsE] at kb kp
      obtain ⟨k, hk⟩ : ∃ k : Nat, bit % 960 = (k : Int) := ⟨(bit % 960).toNat, by omega⟩
      have hkl : k < 960 := by omega
      have km : Hid (∀ W, Calls Try.prog 16 #[.int .i64 bit, .int .i64 960] W fun e w' => e = .returned (.int .i64 (k : Int)) ∧ W = w') := fun W => by
        have := rem_any bit 960 hb (by omega) W
        rw [hk] at this; exact this
      have kq : Hid (∀ W, Calls Try.prog 12 #[.string (ofL (Cd.flip L k))] W fun e w' => e = .returned (.tuple #[.string ⟨#[]⟩, .int .i64 0, .int .i64 153]) ∧ Below W.heap.size W w') := fun W => by
        have := parse_any (ofL (Cd.flip L k)) W (by rw [ofL_size, Cd.flip_length]; omega)
        have e : parE (Cd.flip L k) = 153 := by rw [hL]; exact par_flip (by omega) k hkl
        have e2 : parD (Cd.flip L k) = [] := by unfold parD; rw [e]; rfl
        have e3 : parN (Cd.flip L k) = 0 := by unfold parN; rw [e]; rfl
        rw [ofL_list, e, e2, e3] at this
        exact this
      have hd116 : (d.size : Int) ≤ 116 := by omega
      have hd0 : decide (116 < (d.size : Int)) = false := decide_eq_false (by omega)
      have hdn : d.size ≤ 116 := by omega
      have HL := Lib.hid (And.intro hLl (And.intro hsd hkl))
      clear e1 hdl hs q a hL hLl hT hTl hz hZ hsE hsd hk
      go_enter Try.func4, Try.ntmps4
      go_wp2_with (first
        | (go_at_call 10; refine kb.mono ?_; rintro e w1 ⟨rfl, hb1⟩)
        | (go_at_call 12; refine (kp.out _).mono ?_; rintro e w2 ⟨rfl, hb2⟩))
      go_region_held3 (fun _ => True) (exact trivial)
        (first | (go_at_call 15; (with_reducible refine (kz.out _).mono ?_); rintro e w3 ⟨rfl, hb3⟩))
      all_goals
        obtain ⟨hLl, hsd, hkl2⟩ := HL.out
        obtain ⟨cap, W1, hrun, hrow, hbW, hsz⟩ := RowB.made w3 s (by omega)
        rw [hsd] at hrow
        have hk8 : (k : Int) / 8 < (s.size : Int) := by omega
        have hk80 : 0 ≤ (k : Int) / 8 := by omega
        have hk9 : k / 8 < L.length := by omega
        have c1 := hrow.cell (k / 8) hk9
        have f1 := hrow.free (k / 8) hk9
        have HT := Lib.hid (turned_eq L k hk9)
        have BB : Hid (Below w.heap.size w W1) := (below_trans hb1 (hb2.drew.trans (hb3.mono hb2.size))).trans (hbW.mono (Nat.le_trans (Nat.le_trans hb1.size hb2.size) hb3.size))
        have HRW := Lib.hid hrow
        have HS3 : Hid (w.heap.size ≤ w3.heap.size) := Nat.le_trans (Nat.le_trans hb1.size hb2.size) hb3.size
        clear hrow hbW hsz hb1 hb2 hb3 hx1 hx2 hwz hwz2 hd0 hd116 hdn hTs kz kp kb hLl hsd hkl2 hk9
        go_wp2_with (go_at_call 16; refine (km.out _).mono ?_; rintro e w4 ⟨rfl, rfl⟩)
        go_region
        have e1 : bits BinOp.xor IntKind.u8 ((L[k / 8]?.getD 0).toNat : Int) (2 ^ (k % 8) % 256) = ((turned L k).toNat : Int) := by rw [← List.getD_eq_getElem?_getD]; exact HT.out
        rw [e1]
        have L2 : RowB (W1.setCell ⟨w3.heap.size, k / 8, none⟩ (.int .u8 ((turned L k).toNat : Int))).drew w3.heap.size cap (Cd.flip L k) := HRW.out.set (k / 8) (by rw [HL.out.1]; omega) (turned L k)
        have B2 : Hid (Below w.heap.size w (W1.setCell ⟨w3.heap.size, k / 8, none⟩ (.int .u8 ((turned L k).toNat : Int))).drew) := (BB.out.setCell (p := ⟨w3.heap.size, k / 8, none⟩) HS3.out _).drew
        generalize (W1.setCell ⟨w3.heap.size, k / 8, none⟩ (.int .u8 ((turned L k).toNat : Int))).drew = W2 at *
        have hback := L2.string (w' := W2) 0 128 cap (by rw [Cd.flip_length, HL.out.1]; omega)
        rw [List.drop_zero, List.take_of_length_le (by rw [Cd.flip_length, HL.out.1]; omega)] at hback
        clear e1 hrun c1 f1 L2 hk8 hk80
        generalize ofL (Cd.flip L k) = X at *
        go_wp2_with (first
          | (go_at_call 12; refine (kq.out _).mono ?_; rintro e w5 ⟨rfl, hb5⟩)
          | (go_at_call 14; refine (kf.out _).mono ?_; rintro e w6 ⟨rfl, hb6⟩))
        go_ret
        exact ⟨rfl, B2.out.trans ((below_trans hb5 hb6).mono B2.out.size)⟩
    · have e1 : bytE d.data.toList n = 1 := by unfold bytE; rw [if_neg (by omega), if_neg q]
      rw [e1] at kb
      generalize bytS d.data.toList n = S at *
      unfold stOk at q
      by_cases r : n < 0
      · clear e1 hdl hs q
        go_enter Try.func4, Try.ntmps4
        go_wp2_with (first
          | (go_at_call 10; refine kb.mono ?_; rintro e w1 ⟨rfl, hb1⟩)
          | (go_at_call 14; refine (kf.out _).mono ?_; rintro e w2 ⟨rfl, hb2⟩))
        go_ret
        exact ⟨rfl, below_trans hb1 hb2⟩
      · have r2 : 4611686018427387904 < n := by omega
        clear e1 hdl hs q
        go_enter Try.func4, Try.ntmps4
        go_wp2_with (first
          | (go_at_call 10; refine kb.mono ?_; rintro e w1 ⟨rfl, hb1⟩)
          | (go_at_call 14; refine (kf.out _).mono ?_; rintro e w2 ⟨rfl, hb2⟩))
        go_ret
        exact ⟨rfl, below_trans hb1 hb2⟩
end Go.Proofs.Ytnecbbflcpngcaa
