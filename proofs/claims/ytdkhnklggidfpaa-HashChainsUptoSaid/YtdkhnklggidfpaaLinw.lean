/- Each link of a chain is the sum of the link before, the record's length in eight bytes, and the record; the chain is its links: the walk. Conditions: each text is within reach. -/
import Derived.Test.YtdkhnklggidfpaaKeyw
import Derived.IntWalk
import Derived.Deep.RegionHeld3
namespace Go.Proofs.Ytdkhnklggidfpaa
open Go.RowKit
set_option linter.unusedVariables false
attribute [local go_sem ↓] Go.wp_at_zero Go.wp_at_succ

theorem chain_pre (link : ByteArray) (ao : Option Addr) (cap : Nat) (xs : List ByteArray) (w : World) (hk : link.size < 281474976710656) (hx : ∀ x ∈ xs, x.size < 144115188075855872) (hlen : xs.length ≤ maxLen) (hl : LiesS w ao xs) (n : Nat) (hn : n ≤ xs.length) :
    Calls Try.prog 16 #[.string link, .slice ao n cap] w fun e w' => e = .returned (.string ⟨(chainL (bl link) ((xs.take n).map bl)).toArray⟩) ∧ Below w.heap.size w w' := by
  have h := chain_any link ao cap (xs.take n) w hk (fun x hx' => hx x (List.mem_of_mem_take hx')) (by rw [List.length_take]; omega) (fun i hi => by
    have hi' : i < xs.length := by rw [List.length_take] at hi; omega
    obtain ⟨a, h1, h2, h3⟩ := hl i hi'
    exact ⟨a, h1, by rw [h2, List.getElem_take], h3⟩)
  rw [List.length_take, Nat.min_eq_left hn] at h
  exact h
theorem LiesS.later {w w' : World} {ao : Option Addr} {xs : List ByteArray} (h : LiesS w ao xs) (hb : Below w.heap.size w w') : LiesS w' ao xs := fun i hi => by
  obtain ⟨a, h1, h2, h3⟩ := h i hi
  exact ⟨a, h1, by rw [hb.cell (p := a.add i) (by rw [add_block]; exact h3)]; exact h2, Nat.lt_of_lt_of_le h3 hb.size⟩
theorem be8_take (n p : Nat) (hp : p < 8) : (be8 n).take (8 - p) = (be8 n).take (7 - p) ++ [UInt8.ofNat (n / 2 ^ (8 * p))] := by
  match p, hp with
  | 0, _ => simp [be8]
  | 1, _ => rfl
  | 2, _ => rfl
  | 3, _ => rfl
  | 4, _ => rfl
  | 5, _ => rfl
  | 6, _ => rfl
  | 7, _ => rfl
  | n + 8, h => omega
theorem and255 (n : Int) : bits .and .i64 n 255 = n % 256 := by
  have h255 : (BitVec.ofInt 64 255).toNat = 2 ^ 8 - 1 := by decide
  have key : (BitVec.ofInt 64 n &&& BitVec.ofInt 64 255).toNat = (n % ((2 ^ 64 : Nat) : Int)).toNat % 2 ^ 8 := by
    rw [BitVec.toNat_and, BitVec.toNat_ofInt, h255, Nat.and_two_pow_sub_one_eq_mod]
  show IntKind.i64.wrap ((BitVec.ofInt 64 n &&& BitVec.ofInt 64 255).toNat : Nat) = n % 256
  rw [key, IntKind.wrap_i64]
  omega
theorem byte_and (n j : Nat) : bits BinOp.and IntKind.i64 ((n : Int) / 2 ^ j) 255 % 256 = ((UInt8.ofNat (n / 2 ^ j)).toNat : Int) := by
  rw [and255, ← byte_shift]; omega
theorem link_sum (u x : List UInt8) : sumL (u ++ be8 x.length ++ x) = linkL u x := rfl

set_option maxRecDepth 100000 in
set_option maxHeartbeats 4000000 in
theorem links_walk (link : ByteArray) (ax : Option Addr) (xs : List ByteArray) (capx : Nat) (w : World) (hk : link.size ≤ 140737488351232) (hx : ∀ x ∈ xs, x.size ≤ 140737488351232) (hxl : xs.length ≤ capx) (hcap : capx ≤ maxLen) (hX : LiesS w ax xs) :
    Calls Try.prog 10 #[.string link, .slice ax xs.length capx] w fun e w' => e = .returned (.bool true) ∧ Below w.heap.size w w' := by
  have B0 := Below.refl w.heap.size w
  have hcm : capx ≤ 9223372036854775807 := hcap
  have HCH := Lib.hid (fun (w' : World) (hb : Below w.heap.size w w') (n : Nat) (hn : n ≤ xs.length) => chain_pre link ax capx xs w' (by omega) (fun x h => by have := hx x h; omega) (by omega) (hX.later ⟨hb.os, hb.tape, hb.output, hb.size, hb.block⟩) n hn)
  have HX := Lib.hid hX
  have HS := Lib.hid hx
  have HCM := Lib.hid hcap
  obtain ⟨i0, hi, hz0, hz1, hz2⟩ := info_parts Try.info5
  have HJ := Lib.hid (And.intro hi (And.intro hz0 (And.intro hz1 hz2)))
  clear hX hx hcap hi hz0 hz1 hz2
  go_enter Try.func10, Try.ntmps10
  go_wp2_with fail
  refine (fixed_any _).mono ?_
  rintro e w1 ⟨rfl, b1⟩
  have B1 := B0.trans (b1.mono B0.size)
  clear b1 B0
  go_wp2_with fail
  go_loopw [5, 6, 7, 8, 9] (fun now j _ _ _ wr => ∃ (q : Nat) (u : ByteArray), q ≤ xs.length ∧ j = .int .i64 q ∧ now = .string u ∧ Hid (u.data.toList = chainL (bl link) ((xs.take q).map bl)) ∧ u.size ≤ 140737488351232 ∧ Below w.heap.size w wr) (fun _ j _ _ _ _ => xs.length - (intOf j).toNat)
  case atStart => exact ⟨0, link, Nat.zero_le _, rfl, rfl, rfl, hk, B1⟩
  case round =>
    obtain ⟨q, u, hq, rfl, rfl, HU, hus, hbel⟩ := hrel
    clear B1
    by_cases hlq : q < xs.length
    · obtain ⟨a, rfl, hc, hab⟩ := HX.out q hlq
      have hxs := HS.out _ (List.getElem_mem hlq)
      have HC : Hid (linkL u.data.toList xs[q].data.toList = chainL (bl link) ((xs.take (q + 1)).map bl)) := by
        unfold Hid
        rw [HU.out, List.take_succ_eq_append_getElem hlq, List.map_append, chainL_append]; rfl
      have HC0 := Lib.hid hc
      generalize xs[q] = x at *
      clear hc HU
      obtain ⟨D, hD⟩ : ∃ D, D = wr.heap.size := ⟨_, rfl⟩
      have own0 : OwnK (wr.alloc (.cells #[] 5)) D (.slice (some ⟨D, 0, none⟩) 0 0) [] := by
        rw [hD]
        exact ⟨World.ownsRow_made wr #[] 0 (Nat.le_refl _) (by decide) rfl, by simp⟩
      have hwD : w.heap.size ≤ D := by rw [hD]; exact hbel.size
      have B5 : Below w.heap.size w (wr.alloc (.cells #[] 5)) := hbel.alloc hbel.size _
      have hDs : D ≤ (wr.alloc (.cells #[] 5)).heap.size := by rw [hD]; simp
      have HD := Lib.hid hD
      clear hD hbel
      go_wp2_with fail
      rw [← HD.out]
      go_loopw [7, 8] (fun b k wr' => ∃ p : Int, -1 ≤ p ∧ p ≤ 7 ∧ k = .int .i64 p ∧ OwnK wr' D b ((be8 x.size).take (7 - p).toNat) ∧ Below w.heap.size w wr' ∧ D ≤ wr'.heap.size) (fun _ k _ => (intOf k + 1).toNat)
      case atStart => exact ⟨7, by omega, by omega, rfl, own0, B5, hDs⟩
      case round =>
        obtain ⟨p0, hp0, hp7, rfl, ob, hb, hDw⟩ := hrel
        clear own0 B5 hDs
        by_cases hp : 0 ≤ p0
        · obtain ⟨p, rfl⟩ := Int.eq_ofNat_of_zero_le hp
          have hp8 : p < 8 := by omega
          have hc1 : wr.cell? (a.add q) = some (.string x) := by rw [hb.cell (p := a.add q) (by rw [add_block]; exact hab)]; exact HC0.out
          have HB := Lib.hid (be8_take x.size p hp8)
          have hbl : ((be8 x.size).take (7 - (p : Int)).toNat).length = 7 - p := by rw [List.length_take, be8_length]; omega
          rw [show (7 - (p : Int)).toNat = 7 - p by omega] at ob hbl
          generalize (be8 x.size).take (7 - p) = P9 at *
          have HOB := Lib.hid ob
          clear ob
          have hyy := Lib.hid (byte_and x.size (8 * p))
          go_wp2_with (at_builtin; refine wpList_append_own_at _ rfl (.tmp 24) (.tmp 35) 32 rfl D 5 i0 (.int .u8 0) 1 1 Try.underlying32 HJ.out.1 HJ.out.2.1 HJ.out.2.2.1 HJ.out.2.2.2 rfl (by decide) _ _ _ rfl (HOB.out.1.alloc _) ⟨wr.heap.size, 0, none⟩ 1 1 [Value.int .u8 (bits BinOp.and IntKind.i64 ((x.size : Int) / 2 ^ (8 * p)) 255 % 256)] rfl rfl (news1 _ _) (one1 _) (by rw [hbl]; unfold maxLen; omega) (by rw [hbl]; omega) (by simp; omega) ?_; intro vb' v2 ob2 gr2 nil2 at2; have OB2 := Lib.hid (And.intro ob2 (And.intro gr2 (And.intro nil2 at2))); clear ob2 gr2 nil2 at2)
          have nb : vb' ≠ .slice none 0 0 := fun h => HOB.out.2 (OB2.out.2.2.1.1 h).1
          have fb : OwnK v2 D vb' (P9 ++ [UInt8.ofNat (x.size / 2 ^ (8 * p))]) := OwnK.more hyy.out OB2.out.1 nb
          have G2 : Below w.heap.size w v2 := (hb.alloc hb.size _).grown OB2.out.2.1 (by have := hb.size; simp; omega) (fun g hg => by have := (HOB.out.1.lt g hg).1; omega)
          have hDv2 : D ≤ v2.heap.size := Nat.le_trans (by simp; omega) OB2.out.2.1.size
          rw [← HB.out, show 8 - p = (7 - ((p : Int) - 1)).toNat by omega] at fb
          clear nb
          go_roundw
          case rel => exact ⟨(p : Int) - 1, by omega, by omega, by go_num, fb, G2, hDv2⟩
          case measure => simp [intOf]
        · have hpm : p0 = -1 := by omega
          subst hpm
          have ob8 : OwnK wr D u7 (be8 x.size) := by
            have h := ob
            rw [show (7 - (-1 : Int)).toNat = 8 from rfl, show (be8 x.size).take 8 = be8 x.size from rfl] at h
            exact h
          have hc1 : wr.cell? (a.add q) = some (.string x) := by rw [hb.cell (p := a.add q) (by rw [add_block]; exact hab)]; exact HC0.out
          have hc1' := Lib.hid hc1
          have HOB := Lib.hid ob8
          have HLK := Lib.hid (fun W => link_any u x W (by omega) (by omega))
          have A1 : Hid (∀ W, Calls Try.prog 12 #[.string (u ++ ⟨(be8 x.size).toArray⟩ ++ x)] W fun e w' => e = .returned (.string ⟨(linkL u.data.toList x.data.toList).toArray⟩) ∧ Below W.heap.size W w') := by
            unfold Hid
            intro W
            have h := sum_any (u ++ ⟨(be8 x.size).toArray⟩ ++ x) W (by rw [ByteArray.size_append, ByteArray.size_append, show (⟨(be8 x.size).toArray⟩ : ByteArray).size = 8 from by rw [baSize]; rfl]; omega)
            rw [show (u ++ ⟨(be8 x.size).toArray⟩ ++ x).data.toList = u.data.toList ++ be8 x.data.toList.length ++ x.data.toList by rw [baList]; simp] at h
            exact h
          have A2 : Hid (∀ W, Below w.heap.size w W → Calls Try.prog 16 #[.string link, .slice (some a) (q + 1) capx] W fun e w' => e = .returned (.string ⟨(linkL u.data.toList x.data.toList).toArray⟩) ∧ Below W.heap.size W w') := by
            unfold Hid
            intro W hW
            rw [HC.out]
            exact HCH.out W hW (q + 1) (by omega)
          have l1 : (⟨(linkL u.data.toList x.data.toList).toArray⟩ : ByteArray).size = 32 := by rw [baSize]; rfl
          have HC2 : Hid ((⟨(linkL u.data.toList x.data.toList).toArray⟩ : ByteArray).data.toList = chainL (bl link) ((xs.take (q + 1)).map bl)) := by unfold Hid; rw [baOf]; exact HC.out
          generalize (⟨(linkL u.data.toList x.data.toList).toArray⟩ : ByteArray) = N at *
          clear ob ob8 HC
          go_wp2_with fail
          refine (HLK.out _).mono ?_
          rintro e w5 ⟨rfl, b5⟩
          have ob5 := HOB.out.below b5
          have hc5 : w5.cell? (a.add q) = some (.string x) := by rw [b5.cell (p := a.add q) (World.block_lt_of_cell? wr _ hc1)]; exact hc1
          have hb5 : Below w.heap.size w w5 := hb.trans (b5.mono hb.size)
          have hcv := OwnK.back (w := w5.drew) (show OwnK w5.drew D _ _ from ob5)
          have hcd : w5.drew.cell? (a.add q) = some (.string x) := hc5
          clear hc1 hb b5 hc5
          have hb5' := Lib.hid hb5
          have hz5 : w.heap.size ≤ w5.drew.heap.size := hb5.size
          have f1 : IntKind.i64.wrap ((q : Int) + 1) = (q : Int) + 1 := IntWalk.i64_in _ (by omega)
          have f2 : (0 : Int) ≤ (q : Int) + 1 := by omega
          have f3 : ((q : Int) + 1).toNat = q + 1 := by omega
          have f4 : (q : Int) + 1 ≤ (capx : Int) := by omega
          obtain ⟨E, hE⟩ : ∃ E, E = (⟨(be8 x.size).toArray⟩ : ByteArray) := ⟨_, rfl⟩
          have HE := Lib.hid hE
          have hEs : E.size = 8 := by rw [hE, baSize]; rfl
          have f5 : u.size + E.size ≤ 9223372036854775807 := by omega
          have f6 : u.size + E.size + x.size ≤ 9223372036854775807 := by omega
          have g5 : ¬ 9223372036854775807 < u.size + E.size := by omega
          have g6 : ¬ 9223372036854775807 < u.size + E.size + x.size := by omega
          rw [← hE] at A1 hcv
          clear hE hEs
          go_wp2_with fail
          have HO5 := Lib.hid (show OwnK w5.drew D _ _ from ob5)
          clear ob5
          go_region_held3 (fun w' => w'.cell? (a.add q) = some (.string x) ∧ (convert 32 9 u7).run Try.prog w' = .ok (.string E) w')
            (first
              | exact ⟨hcd, hcv⟩
              | exact ⟨(c4.cell (p := a.add q) (World.block_lt_of_cell? _ _ hcd)).trans hcd, by rw [HE.out]; exact OwnK.back (OwnK.below HO5.out c4)⟩
              | exact ⟨(c5.cell (p := a.add q) (World.block_lt_of_cell? _ _ ((c4.cell (p := a.add q) (World.block_lt_of_cell? _ _ hcd)).trans hcd))).trans ((c4.cell (p := a.add q) (World.block_lt_of_cell? _ _ hcd)).trans hcd), by rw [HE.out]; exact OwnK.back (OwnK.below (OwnK.below HO5.out c4) c5)⟩)
            (first
              | (go_at_call 12; (with_reducible refine (A1.out _).mono ?_); rintro e v4 ⟨rfl, c4⟩)
              | (go_at_call 16; (with_reducible refine (A2.out _ (Below.trans (hb5'.out.drew) (c4.mono hz5))).mono ?_); rintro e v5 ⟨rfl, c5⟩))
          all_goals
            have C4 : Below w.heap.size w v4 := hb5'.out.drew.trans (c4.mono hz5)
            have C5 : Below w.heap.size w v5 := C4.trans (c5.mono C4.size)
            clear f1 f2 f3 f4 f5 f6 g5 g6 hcv hcd c4 c5 C4 hb5
            go_wp2_with fail
            go_roundw
            case rel => exact ⟨q + 1, N, by omega, by go_num, rfl, HC2, by omega, C5⟩
            case measure => simp [intOf]; omega
    · have hqq : q = xs.length := by omega
      have A2 := Lib.hid (HCH.out wr hbel xs.length (Nat.le_refl _))
      have hNU : Hid ((⟨(chainL (bl link) ((xs.take xs.length).map bl)).toArray⟩ : ByteArray) = u) := by
        unfold Hid
        apply ByteArray.ext
        rw [← hqq, ← HU.out]
      rw [hNU.out] at A2
      have hq2 := Lib.hid hqq
      clear hqq
      go_wp2_with (go_at_call 16; refine A2.out.mono ?_; rintro e v6 ⟨rfl, c6⟩)
      go_ret
      exact ⟨rfl, hbel.trans (c6.mono hbel.size)⟩
end Go.Proofs.Ytdkhnklggidfpaa
