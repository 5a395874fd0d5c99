/- The mac, a link and a chain of records: what the calls return; nothing that was there turns. Conditions: the bytes are few enough for a machine. -/
import Derived.Test.YtdkhnklggidfpaaSum
namespace Go.Proofs.Ytdkhnklggidfpaa
open Go.RowKit
set_option linter.unusedVariables false

theorem maskL_length (k : List UInt8) (m : UInt8) (h : k.length ≤ 64) : (maskL k m).length = 64 := by simp [maskL]; omega

set_option maxRecDepth 100000 in
set_option maxHeartbeats 1000000 in
theorem mac_short (key s : ByteArray) (w : World) (hk : key.size ≤ 64) (hs : s.size < 288230376151711744) :
    Calls Try.prog 14 #[.string key, .string s] w fun e w' => e = .returned (.string ⟨(macL key.data.toList s.data.toList).toArray⟩) ∧ Below w.heap.size w w' := by
  have HK : Hid (keyL key.data.toList = key.data.toList) := by unfold Hid keyL; rw [if_neg (by rw [baList]; omega)]
  have kl : key.data.toList.length ≤ 64 := by rw [baList]; exact hk
  have B0 := Below.refl w.heap.size w
  go_enter Try.func14, Try.ntmps14
  go_wp2_with fail
  refine (new_any _).mono ?_
  rintro e w1 ⟨i, rfl, hi, hh1, b1⟩
  have B1 := B0.trans (b1.mono B0.size)
  have i0 : w.heap.size ≤ i := Nat.le_trans B0.size hi
  go_wp2_with fail
  refine (new_any _).mono ?_
  rintro e w2 ⟨o, rfl, ho, hh2, b2⟩
  have B2 := B1.trans (b2.mono B1.size)
  have o0 : w.heap.size ≤ o := Nat.le_trans B1.size ho
  have hio : i ≠ o := by have := hh1.lt; omega
  have ha := hh1.below b2 hh1.lt
  go_wp2_with fail
  refine (masked_any key 54 _ hk).mono ?_
  rintro e w3 ⟨rfl, b3⟩
  have B3 := B2.trans (b3.mono B2.size)
  have ha3 := ha.below b3 ha.lt
  have hb3 := hh2.below b3 hh2.lt
  go_wp2_with fail
  refine (write_any i [] _ _ ha3 ?_ ?_).mono ?_
  · rw [baSize, maskL_length _ _ kl]; decide
  · rw [baSize, maskL_length _ _ kl]; decide
  rintro e w4 ⟨rfl, ha4, k4⟩
  have B4 := Keeps.to_below B3 k4 i0 B3.size
  have hb4 := hb3.keeps k4 (Ne.symm hio)
  rw [List.nil_append, baOf] at ha4
  go_wp2_with fail
  refine (write_any i _ s _ ha4 ?_ ?_).mono ?_
  · unfold maxLen; omega
  · rw [maskL_length _ _ kl]; omega
  rintro e w5 ⟨rfl, ha5, k5⟩
  have B5 := Keeps.to_below B4 k5 i0 B4.size
  have hb5 := hb4.keeps k5 (Ne.symm hio)
  go_wp2_with fail
  refine (masked_any key 92 _ hk).mono ?_
  rintro e w6 ⟨rfl, b6⟩
  have B6 := B5.trans (b6.mono B5.size)
  have ha6 := ha5.below b6 ha5.lt
  have hb6 := hb5.below b6 hb5.lt
  go_wp2_with fail
  refine (write_any o [] _ _ hb6 ?_ ?_).mono ?_
  · rw [baSize, maskL_length _ _ kl]; decide
  · rw [baSize, maskL_length _ _ kl]; decide
  rintro e w7 ⟨rfl, hb7, k7⟩
  have B7 := Keeps.to_below B6 k7 o0 B6.size
  have ha7 := ha6.keeps k7 hio
  rw [List.nil_append, baOf] at hb7
  go_wp2_with fail
  refine (hsum_any i _ _ ha7 ?_).mono ?_
  · rw [List.length_append, maskL_length _ _ kl, baList]; omega
  rintro e w8 ⟨rfl, b8⟩
  have B8 := B7.trans (b8.mono B7.size)
  have hb8 := hb7.below b8 hb7.lt
  go_wp2_with fail
  refine (write_any o _ _ _ hb8 ?_ ?_).mono ?_
  · rw [baSize, sumL_length]; decide
  · rw [baSize, sumL_length, maskL_length _ _ kl]; decide
  rintro e w9 ⟨rfl, hb9, k9⟩
  have B9 := Keeps.to_below B8 k9 o0 B8.size
  rw [baOf] at hb9
  go_wp2_with fail
  refine (hsum_any o _ _ hb9 ?_).mono ?_
  · rw [List.length_append, maskL_length _ _ kl, sumL_length]; decide
  rintro e w10 ⟨rfl, b10⟩
  go_wp2_with fail
  go_ret
  refine ⟨?_, B9.trans (b10.mono B9.size)⟩
  unfold macL
  rw [HK.out]
  rfl

set_option maxRecDepth 100000 in
set_option maxHeartbeats 1000000 in
theorem mac_long (key s : ByteArray) (w : World) (hk : ¬ key.size ≤ 64) (hk2 : key.size < 288230376151711744) (hs : s.size < 288230376151711744) :
    Calls Try.prog 14 #[.string key, .string s] w fun e w' => e = .returned (.string ⟨(macL key.data.toList s.data.toList).toArray⟩) ∧ Below w.heap.size w w' := by
  have HK : Hid (keyL key.data.toList = sumL key.data.toList) := by unfold Hid keyL; rw [if_pos (by rw [baList]; omega)]
  have hk' : 64 < key.size := by omega
  have hkk : (⟨(sumL key.data.toList).toArray⟩ : ByteArray).size ≤ 64 := by rw [baSize, sumL_length]; decide
  have kl : (⟨(sumL key.data.toList).toArray⟩ : ByteArray).data.toList.length ≤ 64 := by rw [baOf, sumL_length]; decide
  clear hk
  go_enter Try.func14, Try.ntmps14
  go_wp2_with fail
  refine (sum_any key _ (Nat.lt_trans hk2 (by decide))).mono ?_
  rintro e w0 ⟨rfl, B0⟩
  go_wp2_with fail
  refine (new_any _).mono ?_
  rintro e w1 ⟨i, rfl, hi, hh1, b1⟩
  have B1 := B0.trans (b1.mono B0.size)
  have i0 : w.heap.size ≤ i := Nat.le_trans B0.size hi
  go_wp2_with fail
  refine (new_any _).mono ?_
  rintro e w2 ⟨o, rfl, ho, hh2, b2⟩
  have B2 := B1.trans (b2.mono B1.size)
  have o0 : w.heap.size ≤ o := Nat.le_trans B1.size ho
  have hio : i ≠ o := by have := hh1.lt; omega
  have ha := hh1.below b2 hh1.lt
  go_wp2_with fail
  refine (masked_any ⟨(sumL key.data.toList).toArray⟩ 54 _ hkk).mono ?_
  rintro e w3 ⟨rfl, b3⟩
  have B3 := B2.trans (b3.mono B2.size)
  have ha3 := ha.below b3 ha.lt
  have hb3 := hh2.below b3 hh2.lt
  go_wp2_with fail
  refine (write_any i [] _ _ ha3 ?_ ?_).mono ?_
  · rw [baSize, maskL_length _ _ kl]; decide
  · rw [baSize, maskL_length _ _ kl]; decide
  rintro e w4 ⟨rfl, ha4, k4⟩
  have B4 := Keeps.to_below B3 k4 i0 B3.size
  have hb4 := hb3.keeps k4 (Ne.symm hio)
  rw [List.nil_append, baOf] at ha4
  go_wp2_with fail
  refine (write_any i _ s _ ha4 ?_ ?_).mono ?_
  · unfold maxLen; omega
  · rw [maskL_length _ _ kl]; omega
  rintro e w5 ⟨rfl, ha5, k5⟩
  have B5 := Keeps.to_below B4 k5 i0 B4.size
  have hb5 := hb4.keeps k5 (Ne.symm hio)
  go_wp2_with fail
  refine (masked_any ⟨(sumL key.data.toList).toArray⟩ 92 _ hkk).mono ?_
  rintro e w6 ⟨rfl, b6⟩
  have B6 := B5.trans (b6.mono B5.size)
  have ha6 := ha5.below b6 ha5.lt
  have hb6 := hb5.below b6 hb5.lt
  go_wp2_with fail
  refine (write_any o [] _ _ hb6 ?_ ?_).mono ?_
  · rw [baSize, maskL_length _ _ kl]; decide
  · rw [baSize, maskL_length _ _ kl]; decide
  rintro e w7 ⟨rfl, hb7, k7⟩
  have B7 := Keeps.to_below B6 k7 o0 B6.size
  have ha7 := ha6.keeps k7 hio
  rw [List.nil_append, baOf] at hb7
  go_wp2_with fail
  refine (hsum_any i _ _ ha7 ?_).mono ?_
  · rw [List.length_append, maskL_length _ _ kl, baList]; omega
  rintro e w8 ⟨rfl, b8⟩
  have B8 := B7.trans (b8.mono B7.size)
  have hb8 := hb7.below b8 hb7.lt
  go_wp2_with fail
  refine (write_any o _ _ _ hb8 ?_ ?_).mono ?_
  · rw [baSize, sumL_length]; decide
  · rw [baSize, sumL_length, maskL_length _ _ kl]; decide
  rintro e w9 ⟨rfl, hb9, k9⟩
  have B9 := Keeps.to_below B8 k9 o0 B8.size
  rw [baOf] at hb9
  go_wp2_with fail
  refine (hsum_any o _ _ hb9 ?_).mono ?_
  · rw [List.length_append, maskL_length _ _ kl, sumL_length]; decide
  rintro e w10 ⟨rfl, b10⟩
  go_wp2_with fail
  go_ret
  refine ⟨?_, B9.trans (b10.mono B9.size)⟩
  unfold macL
  rw [HK.out]
  rfl

theorem mac_any (key s : ByteArray) (w : World) (hk : key.size < 288230376151711744) (hs : s.size < 288230376151711744) :
    Calls Try.prog 14 #[.string key, .string s] w fun e w' => e = .returned (.string ⟨(macL key.data.toList s.data.toList).toArray⟩) ∧ Below w.heap.size w w' := by
  by_cases h : key.size ≤ 64
  · exact mac_short key s w h hs
  · exact mac_long key s w h hk hs

set_option maxRecDepth 100000 in
set_option maxHeartbeats 1000000 in
theorem link_any (link rec : ByteArray) (w : World) (hk : link.size < 144115188075855872) (hs : rec.size < 144115188075855872) :
    Calls Try.prog 18 #[.string link, .string rec] w fun e w' => e = .returned (.string ⟨(linkL link.data.toList rec.data.toList).toArray⟩) ∧ Below w.heap.size w w' := by
  have B0 := Below.refl w.heap.size w
  go_enter Try.func18, Try.ntmps18
  go_wp2_with fail
  refine (new_any _).mono ?_
  rintro e w1 ⟨i, rfl, hi, hh1, b1⟩
  have B1 := B0.trans (b1.mono B0.size)
  have i0 : w.heap.size ≤ i := Nat.le_trans B0.size hi
  go_wp2_with fail
  refine (write_any i [] _ _ hh1 ?_ ?_).mono ?_
  · unfold maxLen; omega
  · show 0 + _ < _; omega
  rintro e w2 ⟨rfl, ha2, k2⟩
  have B2 := Keeps.to_below B1 k2 i0 B1.size
  rw [List.nil_append] at ha2
  go_wp2_with fail
  refine (number_any rec.size (by omega) _).mono ?_
  rintro e w3 ⟨rfl, b3⟩
  have B3 := B2.trans (b3.mono B2.size)
  have ha3 := ha2.below b3 ha2.lt
  go_wp2_with fail
  refine (write_any i _ _ _ ha3 ?_ ?_).mono ?_
  · rw [baSize, be8_length]; decide
  · rw [baSize, be8_length, baList]; omega
  rintro e w4 ⟨rfl, ha4, k4⟩
  have B4 := Keeps.to_below B3 k4 i0 B3.size
  rw [baOf] at ha4
  go_wp2_with fail
  refine (write_any i _ _ _ ha4 ?_ ?_).mono ?_
  · unfold maxLen; omega
  · rw [List.length_append, be8_length, baList]; omega
  rintro e w5 ⟨rfl, ha5, k5⟩
  have B5 := Keeps.to_below B4 k5 i0 B4.size
  go_wp2_with fail
  refine (hsum_any i _ _ ha5 ?_).mono ?_
  · simp only [List.length_append, be8_length, baList]; omega
  rintro e w6 ⟨rfl, b6⟩
  go_wp2_with fail
  go_ret
  refine ⟨?_, B5.trans (b6.mono B5.size)⟩
  unfold linkL
  rw [baList, List.append_assoc]
  rfl
theorem linkL_size (l r : List UInt8) : (⟨(linkL l r).toArray⟩ : ByteArray).size = 32 := by rw [baSize]; rfl

/-- a list of strings that lies in memory -/
def LiesS (w : World) (ao : Option Addr) (xs : List ByteArray) : Prop := ∀ i (h : i < xs.length), ∃ a, ao = some a ∧ w.cell? (a.add i) = some (.string xs[i]) ∧ a.block < w.heap.size
theorem LiesS.below {w w' : World} {B : Nat} {ao : Option Addr} {xs : List ByteArray} (h : LiesS w ao xs) (hb : Below w.heap.size w w') : LiesS w' ao xs := fun i hi => by
  obtain ⟨a, ha, hc, hlt⟩ := h i hi
  exact ⟨a, ha, by rw [hb.cell (p := a.add i) (by unfold Addr.add; split <;> exact hlt)]; exact hc, Nat.lt_of_lt_of_le hlt hb.size⟩
def bl (x : ByteArray) : List UInt8 := x.data.toList

set_option maxRecDepth 100000 in
set_option maxHeartbeats 1000000 in
theorem chain_any (link : ByteArray) (ao : Option Addr) (cap : Nat) (xs : List ByteArray) (w : World) (hk : link.size < 281474976710656) (hx : ∀ x ∈ xs, x.size < 144115188075855872) (hlen : xs.length ≤ maxLen) (hl : LiesS w ao xs) :
    Calls Try.prog 16 #[.string link, .slice ao xs.length cap] w fun e w' => e = .returned (.string ⟨(chainL (bl link) (xs.map bl)).toArray⟩) ∧ Below w.heap.size w w' := by
  unfold maxLen at hlen
  go_enter Try.func16, Try.ntmps16
  go_wp2_with fail
  refine (sclone_any link _ (Nat.le_of_lt hk)).mono ?_
  rintro e w1 ⟨rfl, b1⟩
  go_wp2_with fail
  go_loopw [5, 7, 12] (fun v _ i wr => ∃ (k : Nat) (u : ByteArray), k ≤ xs.length ∧ i = .int .i64 k ∧ v = .string u ∧ Hid (u = ⟨(chainL (bl link) ((xs.take k).map bl)).toArray⟩) ∧ u.size < 144115188075855872 ∧ Below w.heap.size w wr) (fun _ _ i _ => xs.length - (intOf i).toNat)
  case atStart => exact ⟨0, link, Nat.zero_le _, rfl, rfl, rfl, by omega, b1⟩
  case round =>
    obtain ⟨k, u, hk', rfl, rfl, HU, hus, hbel⟩ := hrel
    by_cases hlt : k < xs.length
    · obtain ⟨a, rfl, hc, hab⟩ := hl k hlt
      have hc' : wr.cell? (a.add k) = some (.string xs[k]) := by rw [hbel.cell (p := a.add k) (by unfold Addr.add; split <;> exact hab)]; exact hc
      have hxk := hx xs[k] (List.getElem_mem _)
      have HT : Hid ((chainL (bl link) ((xs.take (k + 1)).map bl)) = linkL (chainL (bl link) ((xs.take k).map bl)) (bl xs[k])) := by
        unfold Hid
        rw [List.take_succ_eq_append_getElem hlt, List.map_append, chainL_append]; rfl
      generalize xs[k] = x at *
      go_wp2_with fail
      refine (link_any u x _ hus hxk).mono ?_
      rintro e w3 ⟨rfl, b3⟩
      have hbel3 := below_trans hbel b3
      have hls := linkL_size u.data.toList x.data.toList
      have HV : Hid (linkL u.data.toList x.data.toList = chainL (bl link) ((xs.take (k + 1)).map bl)) := by
        unfold Hid; rw [HT.out, HU.out, baOf]; rfl
      generalize linkL u.data.toList x.data.toList = v at *
      go_wp2_with fail
      go_roundw
      case rel => exact ⟨k + 1, _, by omega, by go_num, rfl, by rw [← HV.out]; rfl, by omega, hbel3⟩
      case measure => simp [intOf]; omega
    · have hkk : k = xs.length := by omega
      have HK := Lib.hid hkk
      clear hkk
      go_wp2_with fail
      go_ret
      refine ⟨?_, hbel⟩
      rw [← List.take_of_length_le (l := xs) (i := k) (by have := HK.out; omega), ← HU.out]
      rfl
end Go.Proofs.Ytdkhnklggidfpaa
