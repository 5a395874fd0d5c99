/- Links and chains by the document: those of any link and records are those; the walks. Conditions: the link and the records are of 2^20 bytes at most. -/
import Derived.Test.YtdkhnklggidfpaaRefw
import Derived.Test.YtdkhnklggidfpaaLinw
namespace Go.Proofs.Ytdkhnklggidfpaa
open Go.RowKit
set_option linter.unusedVariables false

theorem OwnM.back {w : World} {B : Nat} {v : Value} {l : List UInt8} (h : OwnM w B v l) : (convert 32 9 v).run Try.prog w = .ok (.string ⟨l.toArray⟩) w := by
  obtain ⟨g, cap, rfl, _, _, hc⟩ := h.slice
  refine run_convert_bytes_back (P := Try.prog) w 32 9 5 ⟨g, 0, none⟩ cap l Try.underlying32 Try.underlying5 Try.underlying9 (fun i hi => ?_)
  rw [addr_at, Nat.zero_add, hc i hi]
  simp [List.getD, List.getElem?_eq_getElem hi]

theorem flat_size : ∀ (xs : List ByteArray), ∀ x ∈ xs, x.size ≤ (flat xs).length
  | [], x, hx => by simp at hx
  | y :: xs, x, hx => by
    have e1 : flat (y :: xs) = y.data.toList ++ flat xs := by simp [flat, bl]
    rw [e1, List.length_append, baList]
    rcases List.mem_cons.1 hx with rfl | hx
    · omega
    · have := flat_size xs x hx; omega

set_option maxRecDepth 100000 in
set_option maxHeartbeats 4000000 in
theorem rlink_any (u x : ByteArray) (w : World) (hu : u.size ≤ 2097152) (hx : x.size ≤ 2097152) :
    Calls Try.prog 19 #[.string u, .string x] w fun e w' => e = .returned (.string ⟨(linkL u.data.toList x.data.toList).toArray⟩) ∧ Below w.heap.size w w' := by
  obtain ⟨D, hD⟩ : ∃ D, D = w.heap.size := ⟨_, rfl⟩
  obtain ⟨w0, hcv, ow0, b0⟩ := OwnM.made w u D (by omega) (by omega)
  have OW0 := Lib.hid ow0
  have HD := Lib.hid hD
  have h0s : D ≤ w0.heap.size := by rw [hD]; exact b0.size
  have HL := Lib.hid (baList u)
  obtain ⟨N, hN⟩ : ∃ N, N = linkL u.data.toList x.data.toList := ⟨_, rfl⟩
  rw [← hN]
  have HNN := Lib.hid hN
  clear hN
  generalize Value.slice (some ⟨w.heap.size, 0, none⟩) u.size (grownCap w u.size 0 5) = v0 at *
  clear ow0 hD
  go_enter Try.func19, Try.ntmps19
  go_wp2_with fail
  clear hcv
  go_loopw [5, 6] (fun v i wr => ∃ m : Int, -8 ≤ m ∧ m ≤ 56 ∧ m % 8 = 0 ∧ i = .int .i64 m ∧ OwnM wr D v (u.data.toList ++ (be8 x.size).take (7 - m / 8).toNat) ∧ Below D w wr ∧ D ≤ wr.heap.size) (fun _ i _ => (intOf i + 8).toNat)
  case atStart => exact ⟨56, by omega, by omega, by omega, rfl, by rw [show (7 - (56 : Int) / 8).toNat = 0 from rfl, List.take_zero, List.append_nil]; exact OW0.out, b0, h0s⟩
  case round =>
    obtain ⟨m0, hm1, hm2, hm3, rfl, ow, hb, hbs⟩ := hrel
    clear OW0 b0 h0s
    by_cases h0 : 0 ≤ m0
    · obtain ⟨m, rfl⟩ := Int.eq_ofNat_of_zero_le h0
      obtain ⟨p, rfl⟩ : ∃ p, m = 8 * p := ⟨m / 8, by omega⟩
      have hp8 : p < 8 := by omega
      rw [show (7 - ((8 * p : Nat) : Int) / 8).toNat = 7 - p by omega] at ow
      have HB := Lib.hid (be8_take x.size p hp8)
      have hbl : Hid ((u.data.toList ++ (be8 x.size).take (7 - p)).length = u.size + (7 - p)) := by unfold Hid; rw [List.length_append, HL.out, List.length_take, be8_length]; omega
      have hyy := Lib.hid (byte_and x.size (8 * p))
      obtain ⟨m, hm⟩ : ∃ m, m = 8 * p := ⟨_, rfl⟩
      rw [← hm] at hyy HB ⊢
      have HM := Lib.hid hm
      have hmb : m ≤ 56 := by omega
      have OW := Lib.hid ow
      obtain ⟨c, hc⟩ : ∃ c, c = UInt8.ofNat (x.size / 2 ^ m) := ⟨_, rfl⟩
      rw [← hc] at hyy HB
      have hval : bits BinOp.and IntKind.i64 ((x.size : Int) / 2 ^ m) 255 % 256 = (c.toNat : Int) := hyy.out
      clear ow hm hc
      go_wp2_with (at_builtin; refine wpList_appendM rfl (.tmp 13) (.tmp 20) rfl D _ (u.data.toList ++ (be8 x.size).take (7 - p)) rfl (OW.out.alloc _) ⟨wr.heap.size, 0, none⟩ 1 1 [c] rfl rfl (by decide) (newsB wr c) (by rw [hbl.out]; omega) (by simp; omega) ?_; intro v2 w2 ow2 bb2)
      have ow3 : OwnM w2 D v2 (u.data.toList ++ (be8 x.size).take (8 - p)) := by rw [HB.out, ← List.append_assoc]; exact ow2
      have B2 : Below D w w2 := (hb.alloc hbs _).trans bb2
      have hD2 : D ≤ w2.heap.size := Nat.le_trans (by simp; omega) bb2.size
      have HO3 := Lib.hid ow3
      clear ow2 bb2 ow3 hval
      go_roundw
      case rel =>
        have hM' := HM.out
        refine ⟨(m : Int) - 8, by omega, by omega, by omega, rfl, ?_, B2, hD2⟩
        rw [show (7 - ((m : Int) - 8) / 8).toNat = 8 - p by have := HM.out; omega]
        exact HO3.out
      case measure => simp [intOf]; omega
    · have hm8 : m0 = -8 := by omega
      subst hm8
      rw [show (7 - (-8 : Int) / 8).toNat = 8 from rfl, show (be8 x.size).take 8 = be8 x.size from rfl] at ow
      have hbk := ow.back
      have hf : (u.data.toList ++ be8 x.size).length + x.size ≤ 9223372036854775807 := by rw [List.length_append, HL.out, be8_length]; omega
      have HS : Hid (∀ W, Calls Try.prog 13 #[.string (⟨(u.data.toList ++ be8 x.size).toArray⟩ ++ x)] W fun e w' => e = .returned (.string ⟨N.toArray⟩) ∧ Below W.heap.size W w') := by
        unfold Hid
        intro W
        rw [HNN.out]
        have h := rSum_any (⟨(u.data.toList ++ be8 x.size).toArray⟩ ++ x) W (by rw [ByteArray.size_append, baSize, List.length_append, HL.out, be8_length]; omega)
        rw [show (⟨(u.data.toList ++ be8 x.size).toArray⟩ ++ x : ByteArray).data.toList = u.data.toList ++ be8 x.data.toList.length ++ x.data.toList by rw [baList]; simp] at h
        exact h
      generalize u.data.toList ++ be8 x.size = L at *
      clear ow
      go_wp2_with fail
      refine (HS.out _).mono ?_
      rintro e w5 ⟨rfl, b5⟩
      go_wp2_with fail
      go_ret
      exact ⟨rfl, by rw [← HD.out]; exact hb.trans (b5.mono hbs)⟩

set_option maxRecDepth 100000 in
set_option maxHeartbeats 4000000 in
theorem rchain_any (link : ByteArray) (ao : Option Addr) (cap : Nat) (xs : List ByteArray) (w : World) (hk : link.size ≤ 1048576) (hx : ∀ x ∈ xs, x.size ≤ 1048576) (hlen : xs.length ≤ 1048576) (hl : LiesS w ao xs) :
    Calls Try.prog 17 #[.string link, .slice ao xs.length cap] w fun e w' => e = .returned (.string ⟨(chainL (bl link) (xs.map bl)).toArray⟩) ∧ Below w.heap.size w w' := by
  have HX := Lib.hid hl
  have HS := Lib.hid hx
  have B0 := Below.refl w.heap.size w
  clear hl hx
  go_enter Try.func17, Try.ntmps17
  go_wp2_with fail
  go_loopw [0, 5] (fun now j wr => ∃ (q : Nat) (u : ByteArray), q ≤ xs.length ∧ j = .int .i64 q ∧ now = .string u ∧ Hid (u.data.toList = chainL (bl link) ((xs.take q).map bl)) ∧ u.size ≤ 1048576 ∧ Below w.heap.size w wr) (fun _ j _ => xs.length - (intOf j).toNat)
  case atStart => exact ⟨0, link, Nat.zero_le _, rfl, rfl, rfl, hk, B0⟩
  case round =>
    obtain ⟨q, u, hq, rfl, rfl, HU, hus, hbel⟩ := hrel
    clear B0
    by_cases hlq : q < xs.length
    · obtain ⟨a, rfl, hc, hab⟩ := HX.out q hlq
      have hc' : wr.cell? (a.add q) = some (.string xs[q]) := by rw [hbel.cell (p := a.add q) (by rw [add_block]; exact hab)]; exact hc
      have hxs := HS.out _ (List.getElem_mem hlq)
      have HC : Hid ((⟨(linkL u.data.toList xs[q].data.toList).toArray⟩ : ByteArray).data.toList = chainL (bl link) ((xs.take (q + 1)).map bl)) := by
        unfold Hid
        rw [baOf, HU.out, List.take_succ_eq_append_getElem hlq, List.map_append, chainL_append]; rfl
      have hLk := Lib.hid (fun W => rlink_any u xs[q] W (by omega) (by omega))
      have l1 : (⟨(linkL u.data.toList xs[q].data.toList).toArray⟩ : ByteArray).size = 32 := by rw [baSize]; rfl
      generalize (⟨(linkL u.data.toList xs[q].data.toList).toArray⟩ : ByteArray) = N at *
      generalize xs[q] = x at *
      clear hc HU
      go_wp2_with fail
      refine (hLk.out _).mono ?_
      rintro e w5 ⟨rfl, b5⟩
      go_wp2_with fail
      go_roundw
      case rel => exact ⟨q + 1, N, by omega, by go_num, rfl, HC, by omega, hbel.trans (b5.mono hbel.size)⟩
      case measure => simp [intOf]; omega
    · have hqq : q = xs.length := by omega
      have hNU : Hid (u = (⟨(chainL (bl link) (xs.map bl)).toArray⟩ : ByteArray)) := by
        unfold Hid
        apply ByteArray.ext
        rw [← List.take_length (l := xs), ← hqq, ← HU.out]
      clear hqq
      go_wp2
      go_ret
      exact ⟨by rw [← hNU.out]; rfl, hbel⟩
set_option maxRecDepth 100000 in
set_option maxHeartbeats 4000000 in
theorem chains_walk (link : ByteArray) (ao : Option Addr) (cap : Nat) (xs : List ByteArray) (w : World) (hk : link.size ≤ 1048576) (hx : ∀ x ∈ xs, x.size ≤ 1048576) (hlen : xs.length ≤ 1048576) (hl : LiesS w ao xs) :
    Calls Try.prog 5 #[.string link, .slice ao xs.length cap] w fun e w' => e = .returned (.bool true) ∧ Below w.heap.size w w' := by
  have HX := Lib.hid hl
  clear hl
  have A1 := Lib.hid (fun W (hb : Below w.heap.size w W) => chain_any link ao cap xs W (by omega) (fun x h => by have := hx x h; omega) (by unfold maxLen; omega) (HX.out.later ⟨hb.os, hb.tape, hb.output, hb.size, hb.block⟩))
  have A2 := Lib.hid (fun W (hb : Below w.heap.size w W) => rchain_any link ao cap xs W hk hx hlen (HX.out.later ⟨hb.os, hb.tape, hb.output, hb.size, hb.block⟩))
  have A3 := Lib.hid (fun W => link_any link link W (by omega) (by omega))
  have A4 := Lib.hid (fun W => rlink_any link link W (by omega) (by omega))
  generalize chainL (bl link) (xs.map bl) = C at *
  generalize linkL link.data.toList link.data.toList = N at *
  clear hx HX
  go_enter Try.func5, Try.ntmps5
  go_wp2_with fail
  refine (fixed_any _).mono ?_
  rintro e w1 ⟨rfl, b1⟩
  go_wp2_with fail
  refine (A1.out _ b1).mono ?_
  rintro e w2 ⟨rfl, b2⟩
  have B2 := below_trans b1 b2
  go_wp2_with fail
  refine (A2.out _ B2).mono ?_
  rintro e w3 ⟨rfl, b3⟩
  have B3 := below_trans B2 b3
  go_wp2_with fail
  refine (A3.out _).mono ?_
  rintro e w4 ⟨rfl, b4⟩
  have B4 := below_trans B3 b4
  go_wp2_with fail
  refine (A4.out _).mono ?_
  rintro e w5 ⟨rfl, b5⟩
  have B5 := below_trans B4 b5
  go_wp2_with fail
  go_ret
  exact ⟨rfl, B5⟩
end Go.Proofs.Ytdkhnklggidfpaa
