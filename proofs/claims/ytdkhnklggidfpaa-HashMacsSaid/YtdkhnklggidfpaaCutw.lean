/- Bytes written in pieces, cut at any places, and in one piece, leave hashes that go on alike: the walk. Conditions: the bytes are few enough for a machine. -/
import Derived.Test.YtdkhnklggidfpaaFix
namespace Go.Proofs.Ytdkhnklggidfpaa
open Go.RowKit
set_option linter.unusedVariables false

/-- a list of ints that lies in memory -/
def IntsAt (w : World) (ao : Option Addr) (n : Nat) (Z : Nat → Int) : Prop := ∀ i, i < n → ∃ a, ao = some a ∧ w.cell? (a.add i) = some (.int .i64 (Z i)) ∧ a.block < w.heap.size
def flat (xs : List ByteArray) : List UInt8 := (xs.map bl).flatten
theorem flat_take (xs : List ByteArray) (k : Nat) (h : k < xs.length) : flat (xs.take (k + 1)) = flat (xs.take k) ++ xs[k].data.toList := by
  unfold flat
  rw [List.take_succ_eq_append_getElem h, List.map_append, List.flatten_append]; simp [bl]
theorem flat_le (xs : List ByteArray) (k : Nat) : (flat (xs.take k)).length ≤ (flat xs).length := by
  have h : flat xs = flat (xs.take k) ++ flat (xs.drop k) := by
    unfold flat; rw [← List.flatten_append, ← List.map_append, List.take_append_drop]
  rw [h, List.length_append]; omega
theorem flat_mem (xs : List ByteArray) (k : Nat) (h : k < xs.length) : (flat (xs.take k)).length + xs[k].size ≤ (flat xs).length := by
  have := flat_le xs (k + 1)
  rw [flat_take xs k h, List.length_append, baList] at this
  exact this

theorem add_block (a : Addr) (q : Nat) : (a.add q).block = a.block := by unfold Addr.add; split <;> rfl
theorem cell_keeps {w w' : World} {b : Nat} {p : Addr} {v : Value} (h : w.cell? p = some v) (k : Keeps b w w') (hne : p.block ≠ b) : w'.cell? p = some v := by
  rw [World.cell?_of_block (w := w) (k.block p.block (World.block_lt_of_cell? w _ h) hne)]; exact h
theorem extract_list (s : ByteArray) (m t : Nat) (ht : t ≤ s.size) : (s.extract m t).data.toList = (s.data.toList.take t).drop m := by
  have h : (s.extract m t).data.toList = List.take (t - m) (List.drop m s.data.toList) := by simp
  rw [h, List.drop_take]
theorem take_extract (s : ByteArray) (m t : Nat) (hm : m ≤ t) (ht : t ≤ s.size) : s.data.toList.take m ++ (s.extract m t).data.toList = s.data.toList.take t := by
  rw [extract_list s m t ht]
  have h : (s.data.toList.take t).take m = s.data.toList.take m := by rw [List.take_take, Nat.min_eq_left hm]
  rw [← h, List.take_append_drop]

set_option maxRecDepth 100000 in
set_option maxHeartbeats 4000000 in
theorem cuts_walk (s : ByteArray) (ao : Option Addr) (n cap : Nat) (Z : Nat → Int) (ax : Option Addr) (xs : List ByteArray) (capx : Nat) (w : World)
    (hs : s.size ≤ 1048576) (hx : (flat xs).length ≤ 1048576) (hn : n ≤ 1048576) (hxl : xs.length ≤ 1048576) (hZ : IntsAt w ao n Z) (hX : LiesS w ax xs) :
    Calls Try.prog 9 #[.string s, .slice ao n cap, .slice ax xs.length capx] w fun e w' => e = .returned (.bool true) ∧ Below w.heap.size w w' := by
  have B0 := Below.refl w.heap.size w
  go_enter Try.func9, Try.ntmps9
  go_wp2_with fail
  refine (new_any _).mono ?_
  rintro e w1 ⟨i, rfl, hi, hh1, b1⟩
  have B1 := B0.trans (b1.mono B0.size)
  have i0 : w.heap.size ≤ i := Nat.le_trans B0.size hi
  go_wp2_with fail
  refine (new_any _).mono ?_
  rintro e w2 ⟨o, rfl, ho, hh2, b2⟩
  have B2 := B1.trans (b2.mono B1.size)
  have o0 : w.heap.size ≤ o := Nat.le_trans B1.size ho
  have hio : i ≠ o := by have := hh1.lt; omega
  have ha := hh1.below b2 hh1.lt
  go_wp2_with fail
  refine (fixed_any _).mono ?_
  rintro e w3 ⟨rfl, b3⟩
  have B3 := B2.trans (b3.mono B2.size)
  have ha3 := ha.below b3 ha.lt
  have hb3 := hh2.below b3 hh2.lt
  go_wp2_with fail
  refine (write_any i [] s _ ha3 (by unfold maxLen; omega) (by show 0 + _ < _; omega)).mono ?_
  rintro e w4 ⟨rfl, ha4, k4⟩
  have B4 := Keeps.to_below B3 k4 i0 B3.size
  have hb4 := hb3.keeps k4 (Ne.symm hio)
  rw [List.nil_append] at ha4
  clear b1 b2 b3 B0 B1 B2 B3 hh1 hh2 ha ha3 hb3 k4 hi ho
  go_wp2_with fail
  go_loopw [9, 10, 11] (fun f j _ wr => ∃ k m : Nat, k ≤ n ∧ m ≤ s.size ∧ j = .int .i64 k ∧ f = .int .i64 m ∧ IsH wr i s.data.toList ∧ IsH wr o (s.data.toList.take m) ∧ Below w.heap.size w wr) (fun _ j _ _ => n - (intOf j).toNat)
  case atStart => exact ⟨0, 0, Nat.zero_le _, Nat.zero_le _, rfl, rfl, ha4, hb4, B4⟩
  case round =>
    obtain ⟨k, m, hk, hm, rfl, rfl, hia, hob, hbel⟩ := hrel
    by_cases hlt : k < n
    · obtain ⟨a, rfl, hc, hab⟩ := hZ k hlt
      have hc' : wr.cell? (a.add k) = some (.int .i64 (Z k)) := by rw [hbel.cell (p := a.add k) (by unfold Addr.add; split <;> exact hab)]; exact hc
      generalize Z k = z at *
      by_cases h1 : z < (m : Int)
      · go_wp2_with fail
        go_roundw
        case rel => exact ⟨k + 1, m, by omega, hm, by go_num, rfl, hia, hob, hbel⟩
        case measure => simp [intOf]; omega
      · by_cases h2 : (s.size : Int) < z
        · go_wp2_with fail
          go_roundw
          case rel => exact ⟨k + 1, m, by omega, hm, by go_num, rfl, hia, hob, hbel⟩
          case measure => simp [intOf]; omega
        · obtain ⟨t, rfl⟩ := Int.eq_ofNat_of_zero_le (show 0 ≤ z by omega)
          have hmt : m ≤ t := by omega
          have hts : t ≤ s.size := by omega
          go_wp2_with fail
          refine (write_any o _ _ _ hob ?_ ?_).mono ?_
          · have : (s.extract m t).size ≤ s.size := by simp; omega
            unfold maxLen; omega
          · have : (s.extract m t).size ≤ s.size := by simp; omega
            simp; omega
          rintro e w5 ⟨rfl, hob5, k5⟩
          have hia5 := hia.keeps k5 hio
          rw [take_extract s m t hmt hts] at hob5
          have hbel5 := Keeps.to_below hbel k5 o0 hbel.size
          go_wp2_with fail
          go_roundw
          case rel => exact ⟨k + 1, t, by omega, hts, by go_num, rfl, hia5, hob5, hbel5⟩
          case measure => simp [intOf]; omega
    · clear hZ ha4 hb4 B4
      go_wp2_with fail
      refine (write_any o _ _ _ hob ?_ ?_).mono ?_
      · have : (s.extract m s.size).size ≤ s.size := by simp
        unfold maxLen; omega
      · have : (s.extract m s.size).size ≤ s.size := by simp
        simp; omega
      rintro e w5 ⟨rfl, hob5, k5⟩
      have hia5 := hia.keeps k5 hio
      rw [take_extract s m s.size hm (Nat.le_refl _), List.take_of_length_le (by simp)] at hob5
      have hbel5 := Keeps.to_below hbel k5 o0 hbel.size
      clear hia hob hbel k5
      have hls : s.data.toList.length < 576460752303423488 := by rw [baList]; omega
      go_wp2_with fail
      refine (hsum_any i _ _ hia5 hls).mono ?_
      rintro e w6 ⟨rfl, b6⟩
      have B6 := hbel5.trans (b6.mono hbel5.size)
      have hia6 := hia5.below b6 hia5.lt
      have hob6 := hob5.below b6 hob5.lt
      go_wp2_with fail
      refine (hsum_any o _ _ hob6 hls).mono ?_
      rintro e w7 ⟨rfl, b7⟩
      have B7 := B6.trans (b7.mono B6.size)
      have hia7 := hia6.below b7 hia6.lt
      have hob7 := hob6.below b7 hob6.lt
      go_wp2_with fail
      refine (size_any i _ _ hia7).mono ?_
      rintro e w8 ⟨rfl, rfl⟩
      go_wp2_with fail
      refine (size_any o _ _ hob7).mono ?_
      rintro e w9 ⟨rfl, rfl⟩
      go_wp2_with fail
      refine (hsum_any i _ _ hia7 hls).mono ?_
      rintro e w10 ⟨rfl, b10⟩
      have B10 := B7.trans (b10.mono B7.size)
      have hia10 := hia7.below b10 hia7.lt
      have hob10 := hob7.below b10 hob7.lt
      go_wp2_with fail
      refine (sum_any s _ (by omega)).mono ?_
      rintro e w11 ⟨rfl, b11⟩
      have B11 := B10.trans (b11.mono B10.size)
      have hia11 := hia10.below b11 hia10.lt
      have hob11 := hob10.below b11 hob10.lt
      clear hia5 hob5 hia6 hob6 hia7 hob7 hia10 hob10 b6 b7 b10 b11 B6 B7 B10 hbel5
      go_wp2_with fail
      go_loopw [12] (fun j wr => ∃ q : Nat, q ≤ xs.length ∧ j = .int .i64 q ∧ IsH wr i (s.data.toList ++ flat (xs.take q)) ∧ IsH wr o (s.data.toList ++ flat (xs.take q)) ∧ Below w.heap.size w wr) (fun j _ => xs.length - (intOf j).toNat)
      case atStart => exact ⟨0, Nat.zero_le _, rfl, by simpa [flat] using hia11, by simpa [flat] using hob11, B11⟩
      case round =>
        obtain ⟨q, hq, rfl, hia, hob, hbel⟩ := hrel
        clear hia11 hob11 B11
        by_cases hlq : q < xs.length
        · obtain ⟨a, rfl, hc, hab⟩ := hX q hlq
          have hc' : wr.cell? (a.add q) = some (.string xs[q]) := by rw [hbel.cell (p := a.add q) (by unfold Addr.add; split <;> exact hab)]; exact hc
          have hfm := flat_mem xs q hlq
          have HF := Lib.hid (flat_take xs q hlq)
          have hL : (s.data.toList ++ flat (xs.take q)).length + xs[q].size < 4611686018427387904 := by rw [List.length_append, baList]; omega
          have hL2 : (s.data.toList ++ flat (xs.take q) ++ xs[q].data.toList).length < 576460752303423488 := by rw [List.length_append, List.length_append, baList, baList]; omega
          have hxm : xs[q].size ≤ maxLen := by unfold maxLen; omega
          have HA : Hid (s.data.toList ++ flat (xs.take q) ++ xs[q].data.toList = s.data.toList ++ flat (xs.take (q + 1))) := by unfold Hid; rw [HF.out, List.append_assoc]
          clear hfm HF
          generalize s.data.toList ++ flat (xs.take q) = L at *
          generalize xs[q] = x at *
          clear hc
          go_wp2_with fail
          refine (write_any i L x _ hia hxm hL).mono ?_
          rintro e v1 ⟨rfl, hia1, k1⟩
          have C1 := Keeps.to_below hbel k1 i0 hbel.size
          have hob1 := hob.keeps k1 (Ne.symm hio)
          have hc1 : v1.cell? (a.add q) = some (.string x) := cell_keeps hc' k1 (by rw [add_block]; omega)
          clear hc' hia hob
          go_wp2_with fail
          refine (write_any o L x _ hob1 hxm hL).mono ?_
          rintro e v2 ⟨rfl, hob2, k2⟩
          have C2 := Keeps.to_below C1 k2 o0 C1.size
          have hia2 := hia1.keeps k2 hio
          clear hc1 hia1 hob1
          generalize L ++ x.data.toList = L2 at *
          go_wp2_with fail
          refine (hsum_any i _ _ hia2 hL2).mono ?_
          rintro e v3 ⟨rfl, c3⟩
          have C3 := C2.trans (c3.mono C2.size)
          have hia3 := hia2.below c3 hia2.lt
          have hob3 := hob2.below c3 hob2.lt
          go_wp2_with fail
          refine (hsum_any o _ _ hob3 hL2).mono ?_
          rintro e v4 ⟨rfl, c4⟩
          have C4 := C3.trans (c4.mono C3.size)
          have hia4 := hia3.below c4 hia3.lt
          have hob4 := hob3.below c4 hob3.lt
          go_wp2_with fail
          refine (size_any i _ _ hia4).mono ?_
          rintro e v5 ⟨rfl, rfl⟩
          go_wp2_with fail
          refine (size_any o _ _ hob4).mono ?_
          rintro e v6 ⟨rfl, rfl⟩
          rw [HA.out] at hia4 hob4
          clear k1 k2 c3 c4 C1 C2 C3 hia2 hia3 hob2 hob3 hbel
          go_wp2_with fail
          go_roundw
          case rel => exact ⟨q + 1, by omega, by go_num, hia4, hob4, C4⟩
          case measure => simp [intOf]; omega
        · clear hX
          go_wp2_with fail
          go_ret
          exact ⟨rfl, hbel⟩
end Go.Proofs.Ytdkhnklggidfpaa
