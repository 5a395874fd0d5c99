/- The document's sum of bytes: what the call returns; nothing that was there turns. Conditions: the bytes are within reach. -/
import Derived.Test.YtdkhnklggidfpaaReft
import Derived.StillTailTactics
import Derived.Deep.RegionHeld3
import Derived.Deep.DrawnRows
import Derived.Test.YtdkhnklggidfpaaRefx
import Derived.Test.YtdkhnklggidfpaaRefy
namespace Go.Proofs.Ytdkhnklggidfpaa
open Go.RowKit
set_option linter.unusedVariables false
attribute [local go_sem ↓] Go.wp_at_zero Go.wp_at_succ

set_option maxRecDepth 100000 in
set_option maxHeartbeats 40000000 in
theorem rsum_any (s : ByteArray) (gk ck : Nat) (w : World) (hs : s.size ≤ 140737488351232 + 64) (hk : RowW w gk keys) :
    Calls Try.prog 25 #[.string s, .slice (some ⟨gk, 0, none⟩) 64 ck] w fun e w' => e = .returned (.string ⟨(sumL s.data.toList).toArray⟩) ∧ Below w.heap.size w w' := by
  obtain ⟨D, hD⟩ : ∃ D, D = w.heap.size := ⟨_, rfl⟩
  obtain ⟨w0, hcv, ow0, b0⟩ := OwnM.made w s D (by omega) (by omega)
  have hgk : gk < D := by rw [hD]; exact hk.1
  have hk0 := Lib.hid (hk.below b0 hgk)
  have HK := Lib.hid hk
  have OW0 := Lib.hid ow0
  have HD := Lib.hid hD
  have h0s : D ≤ w0.heap.size := by rw [hD]; exact b0.size
  generalize Value.slice (some ⟨w.heap.size, 0, none⟩) s.size (grownCap w s.size 0 5) = v0 at *
  clear hk ow0 hD
  have HL := Lib.hid (baList s)
  go_enter Try.func25, Try.ntmps25
  go_wp2_with (at_builtin; refine wpList_appendM rfl (.tmp 27) (.tmp 28) rfl D v0 s.data.toList rfl (OW0.out.alloc _) ⟨w0.heap.size, 0, none⟩ 1 1 [128] rfl rfl (by decide) (newsB w0 128) (by rw [HL.out]; omega) (by simp; omega) ?_; intro v1 w1 ow1 bb1)
  have OW1 := Lib.hid ow1
  have B1 : Below D w w1 := (b0.alloc h0s _).trans bb1
  have hD1 : D ≤ w1.heap.size := Nat.le_trans (by simp; omega) bb1.size
  clear ow1 bb1 hcv b0 h0s
  have hz64 : zeros s.size < 64 := by unfold zeros; omega
  go_loopw [5] (fun v wr => ∃ k : Nat, k ≤ zeros s.size ∧ OwnM wr D v (s.data.toList ++ [128] ++ List.replicate k 0) ∧ Below D w wr ∧ D ≤ wr.heap.size) (fun v _ => s.size + 200 - lenV v)
  case atStart => exact ⟨0, by omega, by rw [List.replicate_zero, List.append_nil]; exact OW1.out, B1, hD1⟩
  case round =>
    obtain ⟨k, hk, ow, hb, hbs⟩ := hrel
    clear B1 hD1 OW1
    obtain ⟨g, cap, rfl, hg, hgl, hcl⟩ := ow.slice
    clear hcl
    have hLl : (s.data.toList ++ [128] ++ List.replicate k 0).length = s.size + 1 + k := by simp; omega
    obtain ⟨M, hM⟩ : ∃ M, M = s.size + 1 + k := ⟨_, rfl⟩
    rw [← hM] at hLl
    have HLl := Lib.hid hLl
    rw [hLl]
    rw [hLl] at ow
    have OW := Lib.hid ow
    have hMz := Lib.hid hM
    have hMb : M ≤ 140737488351232 + 200 := by omega
    clear hLl ow hM
    by_cases hm : M % 64 = 56
    · have hkz := zeros_eq s.size k (by rw [← hMz.out]; exact hm) hk
      have hmi : (M : Int) % 64 = 56 := by omega
      subst hkz
      obtain ⟨N, hN⟩ : ∃ N, N = 8 * s.size := ⟨_, rfl⟩
      have h8 : 8 * (s.size : Int) = (N : Int) := by omega
      have hNb : N < 18446744073709551616 := by omega
      obtain ⟨hi, hhi⟩ : ∃ hi, hi = N / 4294967296 := ⟨_, rfl⟩
      obtain ⟨lo, hlo⟩ : ∃ lo, lo = N % 4294967296 := ⟨_, rfl⟩
      have h1 : (N : Int) / 4294967296 = (hi : Int) := by omega
      have h2 : bits BinOp.and IntKind.u64 (N : Int) 4294967295 = (lo : Int) := by
        have h := u64_and_nat N 4294967295 hNb (by decide)
        rw [nat_mask32, ← hlo] at h
        exact h
      have hib : hi < 4294967296 := by omega
      have lob : lo < 4294967296 := by omega
      have HB : Hid (be8 (8 * s.size) = four hi ++ four lo) := by unfold Hid; rw [hhi, hlo, ← hN]; exact be8_four N hNb
      clear hN hhi hlo
      have HDD := HD
      clear HD
      go_wp2_with fail
      refine (four_any hi hib _).mono ?_
      rintro e w2 ⟨rfl, r2, b2⟩
      have OW2 := Lib.hid (OW.out.below b2)
      have NR2 := Lib.hid (newsR r2)
      have B2 : Below D w w2 := hb.trans (b2.mono hbs)
      have hD2 : D ≤ w2.heap.size := Nat.le_trans hbs b2.size
      clear r2 b2
      go_wp2_with (at_builtin; refine wpList_appendM rfl (.tmp 41) (.tmp 45) rfl D _ (s.data.toList ++ [128] ++ List.replicate (zeros s.size) 0) rfl OW2.out ⟨wr.heap.size, 0, none⟩ 4 4 (four hi) rfl rfl (by decide) NR2.out (by rw [HLl.out]; omega) hD2 ?_; intro v3 w3 ow3 bb3)
      have B3 : Below D w w3 := B2.trans bb3
      have hD3 : D ≤ w3.heap.size := Nat.le_trans hD2 bb3.size
      have OW3 := Lib.hid ow3
      clear ow3 bb3
      refine (four_any lo lob _).mono ?_
      rintro e w4 ⟨rfl, r4, b4⟩
      have OW4 := Lib.hid (OW3.out.below b4)
      have NR4 := Lib.hid (newsR r4)
      have B4 : Below D w w4 := B3.trans (b4.mono hD3)
      have hD4 : D ≤ w4.heap.size := Nat.le_trans hD3 b4.size
      clear r4 b4
      have hm8 := make8
      go_wp2_with (at_builtin; refine wpList_appendM rfl (.tmp 47) (.tmp 51) rfl D _ (s.data.toList ++ [128] ++ List.replicate (zeros s.size) 0 ++ four hi) rfl OW4.out ⟨w3.heap.size, 0, none⟩ 4 4 (four lo) rfl rfl (by decide) NR4.out (by rw [List.length_append, HLl.out]; show M + 4 + 4 ≤ _; omega) hD4 ?_; intro v5 w5 ow5 bb5)
      have B5 : Below D w w5 := B4.trans bb5
      have hD5 : D ≤ w5.heap.size := Nat.le_trans hD4 bb5.size
      have ow6 : OwnM w5 D v5 (s.data.toList ++ pad s.data.toList.length) := by
        have e : s.data.toList ++ pad s.data.toList.length = s.data.toList ++ [128] ++ List.replicate (zeros s.size) 0 ++ four hi ++ four lo := by
          rw [HL.out]; unfold pad; rw [HB.out]; simp only [List.append_assoc]
        rw [e]; exact ow5
      obtain ⟨gb, cb, rfl, hgb, hrb⟩ := ow6.row
      have HPL : Hid ((s.data.toList ++ pad s.data.toList.length).length % 64 = 0) := by
        unfold Hid; rw [List.length_append]; exact pad_full _
      have hPb : (s.data.toList ++ pad s.data.toList.length).length ≤ 140737488351232 + 300 := by
        rw [List.length_append, pad_length, HL.out]; unfold zeros; omega
      have HSL : Hid (sumL s.data.toList = outs (fed (s.data.toList ++ pad s.data.toList.length)).1) := rfl
      generalize s.data.toList ++ pad s.data.toList.length = P at *
      clear ow5 ow6 bb5 OW4 NR4 OW3 OW2 NR2 OW HLl HB h8 h1 h2
      obtain ⟨S, hS⟩ : ∃ S, S = w5.heap.size := ⟨_, rfl⟩
      have st6 : (w5.alloc (.cells (wcells (fillS 0)) 47)).heap[S]? = some (.cells (wcells (fillS 0)) 47 (0, 0)) := by rw [hS]; exact block_new _ _
      have b6 : Below S w5 (w5.alloc (.cells (wcells (fillS 0)) 47)) := by rw [hS]; exact (Below.refl _ _).alloc (Nat.le_refl _) _
      have hS6 : S < (w5.alloc (.cells (wcells (fillS 0)) 47)).heap.size := by rw [hS]; simp
      have hDS : D ≤ S := by rw [hS]; exact hD5
      have hgbS : gb < S := by rw [hS]; exact hrb.1
      have HRB := Lib.hid hrb
      have HK5 := Lib.hid (HK.out.below B5 hgk)
      rw [← hS]
      clear hm8 hS hrb hD5
      generalize w5.alloc (.cells (wcells (fillS 0)) 47) = w6 at *
      refine (primes_any 8 _ (by decide)).mono ?_
      rintro e w7 ⟨gp, cp, rfl, hgp, hrp, b7⟩
      have hpl : (primes.take 8).length = 8 := rfl
      have st7 : w7.heap[S]? = some (.cells (wcells (fillS 0)) 47 (0, 0)) := heap_below st6 b7 hS6
      have B7 : Below S w5 w7 := b6.trans (b7.mono (Nat.le_of_lt hS6))
      have hgpS : gp ≠ S := by omega
      clear st6 b6 b7 hgp hS6
      go_wp2_with fail
      go_loopw [9] (fun i wr => ∃ k : Nat, k ≤ 8 ∧ i = .int .i64 k ∧ wr.heap[S]? = some (.cells (wcells (fillS k)) 47 (0, 0)) ∧ RowU wr gp (primes.take 8) ∧ Below S w5 wr) (fun i _ => 8 - (intOf i).toNat)
      case atStart => exact ⟨0, by omega, rfl, st7, hrp, B7⟩
      case round =>
        obtain ⟨k, hk, rfl, hst, hp, hb⟩ := hrel
        clear st7 hrp B7
        by_cases hlt : k < 8
        · have hkz0 := hlt
          have hc := hp.2 k (by rw [hpl]; exact hlt)
          obtain ⟨x, hx⟩ : ∃ x, x = primes.getD k 0 := ⟨_, rfl⟩
          rw [show (primes.take 8).getD k 0 = x by rw [hx]; simp [List.getD, hlt]] at hc
          obtain ⟨r, hr⟩ : ∃ r, r = (stL first).getD k 0 := ⟨_, rfl⟩
          have HR : Unit → rootF x 2 = r := fun _ => by rw [hx, hr]; exact root_first k hlt
          have HX := Lib.hid hx
          have HF : Hid ((fillS k).set k r = fillS (k + 1)) := by unfold Hid; rw [hr]; exact fillS_set k hlt
          have hcell : wr.cell? ⟨S, k, none⟩ = some (.int .u32 ((fillS k).getD k 0 : Nat)) := by
            rw [cell_of_row wr S k _ _ _ hst, wcells_at _ _ (by rw [fillS_len k hk]; exact hlt)]
          have hSl := block_lt hst
          have HST := Lib.hid hst
          have HP := Lib.hid hp
          have HC := Lib.hid hcell
          clear hx hr hst hp hcell
          go_wp2_with fail
          refine (root2 x k r _ (by omega) HX.out (HR ())).mono ?_
          rintro e w8 ⟨rfl, b8⟩
          have hst8 : w8.heap[S]? = some (.cells (wcells (fillS k)) 47 (0, 0)) := heap_below HST.out b8 hSl
          have hcell8 : w8.cell? ⟨S, k, none⟩ = some (.int .u32 ((fillS k).getD k 0 : Nat)) := by
            rw [cell_of_row w8 S k _ _ _ hst8, wcells_at _ _ (by rw [fillS_len k hk]; exact hlt)]
          have hf8 : w8.frozen? ⟨S, k, none⟩ = false := block_free hst8
          have hp8 := HP.out.below b8 HP.out.1
          have B8 : Below S w5 w8 := hb.trans (b8.mono (Nat.le_of_lt hSl))
          have HST8 := Lib.hid hst8
          generalize (fillS k).getD k 0 = oo at *
          clear hst8 b8 HR HC
          go_wp2_with fail
          go_roundw
          case rel =>
            refine ⟨k + 1, by omega, by go_num, ?_, hp8.other hgpS, B8.setCell (by exact Nat.le_refl _) _⟩
            rw [block_setCell HST8.out, wcells_set, HF.out]
          case measure => simp [intOf]; omega
        · have hk8 : k = 8 := by omega
          subst hk8
          rw [show fillS 8 = stL first from rfl] at hst
          clear hp hpl
          have hst0 : wr.heap[S]? = some (.cells (wcells (stL (fed (P.take (64 * 0))).1)) 47 (0, 0)) := hst
          clear hst
          go_wp2_with fail
          go_loopw [10, 11, 12, 13, 14, 15, 16, 17, 18, 19, 20, 21, 22, 23] (fun at_ _ _ _ _ _ _ _ _ _ _ _ _ _ wr => ∃ j A : Nat, A = 64 * j ∧ A ≤ P.length ∧ at_ = .int .i64 (A : Nat) ∧ wr.heap[S]? = some (.cells (wcells (stL (fed (P.take (64 * j))).1)) 47 (0, 0)) ∧ Below S w5 wr) (fun at_ _ _ _ _ _ _ _ _ _ _ _ _ _ _ => P.length + 64 - (intOf at_).toNat)
          case atStart => exact ⟨0, 0, rfl, Nat.zero_le _, rfl, hst0, hb⟩
          case round =>
            obtain ⟨j, A, hA, hAl, rfl, hst, hb⟩ := hrel
            obtain ⟨W8, rfl⟩ : ∃ W8, W8 = wr := ⟨_, rfl⟩
            clear hst0
            by_cases hlt2 : A < P.length
            · have hj1 : 64 * (j + 1) ≤ P.length := by have := HPL.out; omega
              have hFB := Lib.hid (fed_block P j hj1)
              have hsok := fed_ok (P.take (64 * j))
              have hBA : Hid (∀ i, i < 64 → (blk P j).getD i 0 = P.getD (A + i) 0) := by unfold Hid; rw [hA]; exact fun i h => blk_at P j i h
              have hBL := Lib.hid (blk_len P j hj1)
              have hj64 : A + 64 ≤ P.length := by omega
              have HA := Lib.hid hA
              generalize blk P j = l at *
              generalize (fed (P.take (64 * j))).1 = st at *
              clear hA
              obtain ⟨X, hX⟩ : ∃ X, X = W8.heap.size := ⟨_, rfl⟩
              have hSX : S < X := by rw [hX]; exact block_lt hst
              have hx0 : (W8.alloc (.cells (wcells (List.replicate 64 0)) 47)).heap[X]? = some (.cells (wcells (fillW (ws l 0) (64 - 0))) 47 (0, 0)) := by rw [hX]; exact block_new _ _
              have bx0 : Below X W8 (W8.alloc (.cells (wcells (List.replicate 64 0)) 47)) := by rw [hX]; exact (Below.refl _ _).alloc (Nat.le_refl _) _
              have HST := Lib.hid hst
              have HBW := Lib.hid hb
              have hrb := HRB.out.below hb hgbS
              have HRB2 := Lib.hid hrb
              have HX := Lib.hid hX
              have hm64 := make64
              have hgbX : gb < X := by omega
              clear hst hb hX hrb
              go_wp2_with fail
              rw [← HX.out]
              clear hm64
              go_loopw [12, 13] (fun i _ wr2 => ∃ k : Nat, k ≤ 16 ∧ i = .int .i64 k ∧ wr2.heap[X]? = some (.cells (wcells (fillW (ws l k) (64 - k))) 47 (0, 0)) ∧ Below X W8 wr2) (fun i _ _ => 16 - (intOf i).toNat)
              case atStart => exact ⟨0, by omega, rfl, hx0, bx0⟩
              case round =>
                obtain ⟨k, hk, rfl, hrow, hbel⟩ := hrel
                clear hx0 bx0
                by_cases hl4 : k < 16
                · have hkz0 := hl4
                  have hrb := HRB2.out.below hbel hgbX
                  obtain ⟨q, hq⟩ : ∃ q, q = A + 4 * k := ⟨_, rfl⟩
                  have hc : ∀ d, d < 4 → wr.cell? ⟨gb, q + d, none⟩ = some (.int .u8 ((l.getD (4 * k + d) 0).toNat : Int)) := fun d hd => by
                    rw [hrb.2 (q + d) (by omega), hBA.out (4 * k + d) (by omega), hq, Nat.add_assoc]
                  have c0 := hc 0 (by decide)
                  have c1 := hc 1 (by decide)
                  have c2 := hc 2 (by decide)
                  have c3 := hc 3 (by decide)
                  rw [Nat.add_zero, Nat.add_zero] at c0
                  have hqi : (A : Int) + 4 * (k : Int) = (q : Int) := by omega
                  have i1 : (q : Int) + 1 = ((q + 1 : Nat) : Int) := by omega
                  have i2 : (q : Int) + 2 = ((q + 2 : Nat) : Int) := by omega
                  have i3 : (q : Int) + 3 = ((q + 3 : Nat) : Int) := by omega
                  have w1 : IntKind.i64.wrap ((q : Int) + 1) = ((q + 1 : Nat) : Int) := by rw [IntKind.wrap_i64]; omega
                  have w2 : IntKind.i64.wrap ((q : Int) + 2) = ((q + 2 : Nat) : Int) := by rw [IntKind.wrap_i64]; omega
                  have w3 : IntKind.i64.wrap ((q : Int) + 3) = ((q + 3 : Nat) : Int) := by rw [IntKind.wrap_i64]; omega
                  have u1 : IntKind.i64.wrap ((q + 1 : Nat) : Int) = ((q + 1 : Nat) : Int) := by rw [IntKind.wrap_i64]; omega
                  have u2 : IntKind.i64.wrap ((q + 2 : Nat) : Int) = ((q + 2 : Nat) : Int) := by rw [IntKind.wrap_i64]; omega
                  have u3 : IntKind.i64.wrap ((q + 3 : Nat) : Int) = ((q + 3 : Nat) : Int) := by rw [IntKind.wrap_i64]; omega
                  have j0 : (q : Int) < (P.length : Int) := by omega
                  have j1 : ((q + 1 : Nat) : Int) < (P.length : Int) := by omega
                  have j2 : ((q + 2 : Nat) : Int) < (P.length : Int) := by omega
                  have j3 : ((q + 3 : Nat) : Int) < (P.length : Int) := by omega
                  obtain ⟨x0, hx0⟩ : ∃ x, x = l.getD (4 * k) 0 := ⟨_, rfl⟩
                  obtain ⟨x1, hx1⟩ : ∃ x, x = l.getD (4 * k + 1) 0 := ⟨_, rfl⟩
                  obtain ⟨x2, hx2⟩ : ∃ x, x = l.getD (4 * k + 2) 0 := ⟨_, rfl⟩
                  obtain ⟨x3, hx3⟩ : ∃ x, x = l.getD (4 * k + 3) 0 := ⟨_, rfl⟩
                  rw [← hx0] at c0
                  rw [← hx1] at c1
                  rw [← hx2] at c2
                  rw [← hx3] at c3
                  have HX4 := Lib.hid (And.intro (And.intro hx0 hx1) (And.intro hx2 hx3))
                  clear hx0 hx1 hx2 hx3 hc hq hrb
                  generalize q + 1 = q1 at *
                  generalize q + 2 = q2 at *
                  generalize q + 3 = q3 at *
                  have hcell : wr.cell? ⟨X, k, none⟩ = some (.int .u32 ((fillW (ws l k) (64 - k)).getD k 0 : Nat)) := by
                    rw [cell_of_row wr X k _ _ _ hrow, wcells_at _ _ (by rw [wpad_len l k (by omega)]; omega)]
                  have hfree : wr.frozen? ⟨X, k, none⟩ = false := block_free hrow
                  have HR := Lib.hid hrow
                  generalize (fillW (ws l k) (64 - k)).getD k 0 = oo at *
                  have hk64 : (k : Int) < 64 := by omega
                  clear hrow
                  go_wp2
                  go_still_tail 32, (by kernel_rfl)
                  change wpList _ _ _ _ _ wr.drew
                  rw [word_eq]
                  go_wp2
                  refine ⟨?_, ?measure⟩
                  repeat apply Exists.intro
                  refine ⟨?rel, rfl⟩
                  case rel =>
                    refine ⟨k + 1, by omega, by go_num, ?_, (hbel.setCell (by exact Nat.le_refl _) _).drew⟩
                    show (wr.setCell _ _).heap[X]? = _
                    have hw : ws l (k + 1) = ws l k ++ [x0.toNat * 16777216 + x1.toNat * 65536 + x2.toNat * 256 + x3.toNat] := by
                      rw [HX4.out.1.1, HX4.out.1.2, HX4.out.2.1, HX4.out.2.2]
                      simp [ws, hl4, word]
                    rw [block_setCell HR.out, ← wpad_set l k _ (by omega) hw, ← wcells_set]
                    simp
                  case measure => simp [intOf]; omega
                · have hk16 : k = 16 := by omega
                  subst hk16
                  clear hk hl4
                  go_wp2
                  go_loopw [14, 15, 16] (fun i _ _ wr2 => ∃ n : Nat, 16 ≤ n ∧ n ≤ 64 ∧ i = .int .i64 n ∧ wr2.heap[X]? = some (.cells (wcells (fillW (ws l n) (64 - n))) 47 (0, 0)) ∧ Below X W8 wr2) (fun i _ _ _ => 64 - (intOf i).toNat)
                  case atStart => exact ⟨16, by omega, by omega, rfl, hrow, hbel⟩
                  case round =>
                    obtain ⟨n, hn16, hn, rfl, hrow2, hbel2⟩ := hrel
                    clear hrow
                    by_cases hl5 : n < 64
                    · have hkz0 := hl5
                      refine w64_round _ _ _ _ _ _ _ _ _ _ _ _ _ _ _ _ _ _ _ _ _ _ _ _ _ _ _ _ _ _ _ _ _ _ _ _ _ _ _ _ _ _ _ _ _ _ _ _ _ _ _ _ _ _ _ _ _ _ _ _ _ _ _ _ _ _ _ _ _ _ _ _ _ _ _ _ _ _ _ _ _ _ _ _ _ _ _ _ _ _ _ _ _ _ _ _ _ _ _ _ _ _ _ _ _ _ _ _ _ _ _ _ _ _ _ _ _ _ _ _ _ _ _ _ _ _ _ _ _ _ _ _ _ _ _ _ _ _ _ _ _ _ _ _ _ _ _ _ _ _ _ _ _ _ _ _ _ _ _ _ _ _ _ _ _ _ _ _ _ _ _ _ _ _ _ _ _ _ _ _ _ _ _ _ _ _ _ _ _ _ _ _ _ _ _ _ _ _ _ _ _ _ _ _ _ _ _ _ _ _ _ _ _ _ _ _ _ _ _ _ _ _ _ _ _ _ _ _ _ _ _ _ _ _ _ _ _ _ _ _ _ _ _ _ _ _ _ _ _ _ _ _ _ _ _ _ _ _ _ _ _ _ _ _ _ _ _ _ _ _ _ _ _ _ _ _ _ _ _ _ _ _ _ _ _ _ _ _ _ _ _ _ _ _ _ hn16 hn hl5 hrow2 hbel2 ?_
                      intro v15 v16 v114 v115 v116 v117 v118 v119 v120 v121 v122 v123 v124 v125 v126 v127 v128 v129 v130 v131 v132 v133 v134 v135 v136 v137 v138 v139 v140 v141 v142 v143 v144 v145 v146 v147 v148 v149 v150 v151 v152 v153 v154 v155 v156 v157 v158 v159 w2 ⟨hrow', hbel'⟩
                      show (_ : Prop) ∧ (_ : Prop)
                      refine ⟨?_, ?measure⟩
                      repeat apply Exists.intro
                      refine ⟨?rel, rfl⟩
                      case rel => exact ⟨n + 1, by omega, by omega, by go_num, hrow', hbel'⟩
                      case measure => simp [intOf]; omega
                    · have hn64 : n = 64 := by omega
                      subst hn64
                      have hrw0 : RowW wr X (ws l 64) := RowW.of_block (t := 47) (fr := (0, 0)) (by rw [hrow2]; simp [fillW])
                      have HRW := Lib.hid hrw0
                      have HST9 := Lib.hid (heap_below HST.out hbel2 hSX)
                      have hk9 := Lib.hid ((HK5.out.below HBW.out (by omega)).below hbel2 (by omega))
                      have hbw9 := Lib.hid (HBW.out.trans (Below.mono hbel2 (by omega)))
                      have hX9 : X < wr.heap.size := hrw0.1
                      clear hrow2 hrw0 hbel2 hl5
                      obtain ⟨W9, rfl⟩ : ∃ W9, W9 = wr := ⟨_, rfl⟩
                      obtain ⟨Y, hY⟩ : ∃ Y, Y = W9.heap.size := ⟨_, rfl⟩
                      have own6 : (W9.alloc (.cells #[] 47)).ownsRow Y 47 1 (.slice (some ⟨Y, 0, none⟩) 0 0) 0 [] := by
                        rw [hY]; exact World.ownsRow_made W9 #[] 0 (Nat.le_refl _) (by decide) rfl
                      have hn6 : ∀ j u, ((stL st).map cellW)[j]? = some u → (W9.alloc (.cells #[] 47)).cell? ((⟨S, 0, none⟩ : Addr).add j) = some u := by
                        intro j u hj
                        rw [addr_at, Nat.zero_add, World.cell?_alloc_past _ _ _ (by show S < W9.heap.size; omega), cell_of_row W9 S j _ _ _ HST9.out]
                        simpa [wcells] using hj
                      have HN6 := Lib.hid hn6
                      have HO6 := Lib.hid own6
                      have h1c : ∀ u ∈ (stL st).map cellW, u.oneCell' = true := by
                        intro u hu
                        obtain ⟨x, _, rfl⟩ := List.mem_map.1 hu
                        rfl
                      have H1C := Lib.hid h1c
                      obtain ⟨i0, hi0, hz0, hz1, hz2⟩ := info_parts Try.infoU32
                      have HI := Lib.hid (And.intro hi0 (And.intro hz0 (And.intro hz1 hz2)))
                      have bY0 : Below Y W9 (W9.alloc (.cells #[] 47)) := by rw [hY]; exact (Below.refl _ _).alloc (Nat.le_refl _) _
                      have hYs : Y ≤ (W9.alloc (.cells #[] 47)).heap.size := by rw [hY]; simp
                      have HY := Lib.hid hY
                      clear hY own6 hn6 h1c hi0 hz0 hz1 hz2
                      go_wp2_with (at_builtin; rw [← HY.out]; refine wpList_append_own_at _ rfl (.tmp 160) (.tmp 161) 42 rfl Y 47 i0 (.int .u32 0) 1 4 Try.underlying42 HI.out.1 HI.out.2.1 HI.out.2.2.1 HI.out.2.2.2 rfl (by decide) (.slice (some ⟨Y, 0, none⟩) 0 0) 0 [] rfl HO6.out ⟨S, 0, none⟩ 8 8 ((stL st).map cellW) rfl rfl HN6.out H1C.out (by decide) (by decide) (by exact hYs) ?_; intro v9 w9 ob9 gr9 nil9 at9)
                      have ow9 : OwnW w9 Y v9 (stL st) := ⟨ob9, fun h => by have := (nil9.1 h).1; simp at this⟩
                      have b9 : Below Y W9 w9 := bY0.grown gr9 hYs (fun g' hg' => by simp [Value.ownBlock] at hg'; omega)
                      obtain ⟨gv, cv, rfl, hgv, hrv⟩ := ow9.slice
                      clear ob9 gr9 nil9 at9 ow9 bY0 hYs
                      go_wp2_with fail
                      go_loopw [17, 18, 19, 20, 21, 22] (fun v i _ _ _ _ wr2 => ∃ (k : Nat) (r : St) (gv cv : Nat), k ≤ 64 ∧ i = .int .i64 k ∧ v = .slice (some ⟨gv, 0, none⟩) 8 cv ∧ Y ≤ gv ∧ Hid (r = rounds (ws l 64) st k) ∧ RowW wr2 gv (stL r) ∧ Below Y W9 wr2) (fun _ i _ _ _ _ _ => 64 - (intOf i).toNat)
                      case atStart => exact ⟨0, st, gv, cv, by omega, rfl, rfl, hgv, rfl, hrv, b9⟩
                      case round =>
                        obtain ⟨k, r, gv, cv, hk, rfl, rfl, hgvY, HR, hrv, hb9⟩ := hrel
                        by_cases hl6 : k < 64
                        · have hkz0 := hl6
                          refine r64_round _ _ _ _ _ _ _ _ _ _ _ _ _ _ _ _ _ _ _ _ _ _ _ _ _ _ _ _ _ _ _ _ _ _ _ _ _ _ _ _ _ _ _ _ _ _ _ _ _ _ _ _ _ _ _ _ _ _ _ _ _ _ _ _ _ _ _ _ _ _ _ _ _ _ _ _ _ _ _ _ _ _ _ _ _ _ _ _ _ _ _ _ _ _ _ _ _ _ _ _ _ _ _ _ _ _ _ _ _ _ _ _ _ _ _ _ _ _ _ _ _ _ _ _ _ _ _ _ _ _ _ _ _ _ _ _ _ _ _ _ _ _ _ _ _ _ _ _ _ _ _ _ _ _ _ _ _ _ _ _ _ _ _ _ _ _ _ _ _ _ _ _ _ _ _ _ _ _ _ _ _ _ _ _ _ _ _ _ _ _ _ _ _ _ _ _ _ _ _ _ _ _ _ _ _ _ _ _ _ _ _ _ _ _ _ _ _ _ _ _ _ _ _ _ _ _ _ _ _ _ _ _ _ _ _ _ _ _ _ _ _ _ _ _ _ _ _ _ _ _ _ _ _ _ _ _ _ _ _ _ _ _ _ _ _ _ _ _ _ _ _ _ _ _ _ _ _ _ _ _ _ _ _ _ _ _ _ _ _ _ _ _ _ _ _ _ _ _ _ _ HY hk9 HRW hX9 hsok hk hl6 hgvY HR hrv hb9 ?_
                          intro v19 v20 v21 v22 v163 v164 v165 v166 v167 v168 v169 v170 v171 v172 v173 v174 v175 v176 v177 v178 v179 v180 v181 v182 v183 v184 v185 v186 v187 v188 v189 v190 v191 v192 v193 v194 v195 v196 v197 v198 v199 v200 v201 v202 v203 v204 v205 v206 v207 v208 v209 v210 v211 v212 v213 v214 v215 v216 v217 v218 v219 v220 v221 v222 v223 v224 v225 v226 v227 v228 v229 v230 v231 v232 v233 v234 v235 v236 v237 v238 v239 v240 v241 v242 v243 v244 v245 v246 v247 v248 v249 v250 v251 v252 v253 v254 v255 v256 v257 v258 v259 v260 v261 v262 w2 r' gv' cv' ⟨hgv', HR', hrv', hb'⟩
                          show (_ : Prop) ∧ (_ : Prop)
                          refine ⟨?_, ?measure⟩
                          repeat apply Exists.intro
                          refine ⟨?rel, rfl⟩
                          case rel => exact ⟨k + 1, r', gv', cv', by omega, by go_num, rfl, hgv', HR', hrv', hb'⟩
                          case measure => simp [intOf]; omega
                        · have hkz0 := hl6
                          have hk64 : k = 64 := by omega
                          subst hk64
                          have hST := heap_below HST9.out hb9 (by have := HY.out; omega)
                          have hS9 : Below S W9 wr := Below.mono hb9 (by have := HY.out; omega)
                          have hrr : r.ok := by rw [HR.out]; exact rounds_ok hsok 64
                          have hnx : Hid ((fed (P.take (64 * (j + 1)))).1 = sums st r) := by unfold Hid; rw [hFB.out, HR.out]; rfl
                          have hgvS : gv ≠ S := by
                            have := HY.out
                            omega
                          have st0 : wr.heap[S]? = some (.cells (wcells (addK st r 0)) 47 (0, 0)) := hST
                          clear hST hl6 hb9 HR
                          go_wp2_with fail
                          go_loopw [23] (fun i wr2 => ∃ k : Nat, k ≤ 8 ∧ i = .int .i64 k ∧ wr2.heap[S]? = some (.cells (wcells (addK st r k)) 47 (0, 0)) ∧ RowW wr2 gv (stL r) ∧ Below S W9 wr2) (fun i _ => 8 - (intOf i).toNat)
                          case atStart => exact ⟨0, by omega, rfl, st0, hrv, hS9⟩
                          case round =>
                            obtain ⟨k, hk, rfl, hst, hrv, hb7⟩ := hrel
                            clear st0 hS9
                            by_cases hl7 : k < 8
                            · have c1 : wr.cell? ⟨S, k, none⟩ = some (.int .u32 ((stL st).getD k 0 : Nat)) := by
                                rw [cell_of_row wr S k _ _ _ hst, wcells_at _ _ (by rw [addK_len]; exact hl7), addK_at _ _ _ hl7]
                              have c2 := hrv.2 k (by rw [stL_len]; exact hl7)
                              have hf : wr.frozen? ⟨S, k, none⟩ = false := block_free hst
                              have HSET := Lib.hid (addK_set st r k hl7)
                              have HST7 := Lib.hid hst
                              have HRV := Lib.hid hrv
                              generalize (stL st).getD k 0 = p at *
                              generalize (stL r).getD k 0 = q at *
                              have hk8 : (k : Int) < 8 := by omega
                              have hadd : IntKind.u32.wrap ((p : Int) + (q : Int)) = ((add p q : Nat) : Int) := by rw [u32w]; unfold add; omega
                              clear hst hrv
                              go_wp2
                              go_still_tail 10, (by kernel_rfl)
                              change wpList _ _ _ _ _ wr.drew
                              go_wp2
                              refine ⟨?_, ?measure⟩
                              repeat apply Exists.intro
                              refine ⟨?rel, rfl⟩
                              case rel =>
                                refine ⟨k + 1, by omega, by go_num, ?_, ?_, (hb7.setCell (by exact Nat.le_refl _) _).drew⟩
                                · show (wr.setCell _ _).heap[S]? = _
                                  rw [block_setCell HST7.out, wcells_set, HSET.out]
                                · exact HRV.out.other hgvS
                              case measure => simp [intOf]; omega
                            · have hk8 : k = 8 := by omega
                              subst hk8
                              rw [addK_done, ← hnx.out] at hst
                              have hfin := hbw9.out.trans hb7
                              clear hrv hb7 hl7
                              go_wp2
                              refine ⟨?_, ?measure⟩
                              repeat apply Exists.intro
                              refine ⟨?rel, rfl⟩
                              case rel =>
                                exact ⟨j + 1, A + 64, by have := HA.out; omega, by omega, by go_num, hst, hfin⟩
                              case measure => simp [intOf]; omega
            · have hkz0 := hlt2
              have hAP : A = P.length := by omega
              have hst8 : W8.heap[S]? = some (.cells (wcells (stL (fed P).1)) 47 (0, 0)) := by
                have h : P.take (64 * j) = P := by rw [← hA, hAP, List.take_length]
                rw [h] at hst; exact hst
              have hsok : (fed P).1.ok := fed_ok P
              have HSUM : Hid (sumL s.data.toList = outs (fed P).1) := HSL.out
              generalize (fed P).1 = st at *
              obtain ⟨E, hE⟩ : ∃ E, E = W8.heap.size := ⟨_, rfl⟩
              have hSE : S < E := by rw [hE]; exact block_lt hst8
              have ow0 : OwnM (W8.alloc (.cells #[] 5)) E (.slice (some ⟨E, 0, none⟩) 0 0) (outK st 0) := by rw [hE]; exact OwnM.empty W8
              have be0 : Below E W8 (W8.alloc (.cells #[] 5)) := by rw [hE]; exact (Below.refl _ _).alloc (Nat.le_refl _) _
              have hEs : E ≤ (W8.alloc (.cells #[] 5)).heap.size := by rw [hE]; simp
              have HST8 := Lib.hid hst8
              have HE := Lib.hid hE
              have HB8 := Lib.hid hb
              clear hst hst8 hE hb hAP hA
              go_wp2_with fail
              rw [← HE.out]
              go_loopw [24, 25] (fun v i wr2 => ∃ k : Nat, k ≤ 8 ∧ i = .int .i64 k ∧ OwnM wr2 E v (outK st k) ∧ Below E W8 wr2 ∧ E ≤ wr2.heap.size) (fun _ i _ => 8 - (intOf i).toNat)
              case atStart => exact ⟨0, by omega, rfl, ow0, be0, hEs⟩
              case round =>
                obtain ⟨k, hk, rfl, ow, hbk, hbs8⟩ := hrel
                clear ow0 be0 hEs
                by_cases hl8 : k < 8
                · have hst9 := heap_below HST8.out hbk hSE
                  have c1 : wr.cell? ⟨S, k, none⟩ = some (.int .u32 ((stL st).getD k 0 : Nat)) := by
                    rw [cell_of_row wr S k _ _ _ hst9, wcells_at _ _ (by rw [stL_len]; exact hl8)]
                  have hxx := stL_lt st hsok k hl8
                  have hnx := Lib.hid (outK_next st k hl8)
                  have hol := Lib.hid (outK_length st k (by omega))
                  have OW := Lib.hid ow
                  have hk8 : (k : Int) < 8 := by omega
                  generalize (stL st).getD k 0 = x at *
                  clear hst9 ow
                  go_wp2_with fail
                  refine (four_any x hxx _).mono ?_
                  rintro e w11 ⟨rfl, r11, b11⟩
                  have OW11 := Lib.hid (OW.out.below b11)
                  have NR11 := Lib.hid (newsR r11)
                  have B11 : Below E W8 w11 := hbk.trans (b11.mono hbs8)
                  have hE11 : E ≤ w11.heap.size := Nat.le_trans hbs8 b11.size
                  clear r11 b11
                  go_wp2_with (at_builtin; refine wpList_appendM rfl (.tmp 282) (.tmp 287) rfl E _ (outK st k) rfl OW11.out ⟨wr.heap.size, 0, none⟩ 4 4 (four x) rfl rfl (by decide) NR11.out (by rw [hol.out]; omega) hE11 ?_; intro v12 w12 ow12 bb12)
                  rw [← hnx.out] at ow12
                  have B12 := B11.trans bb12
                  have hE12 : E ≤ w12.heap.size := Nat.le_trans hE11 bb12.size
                  have OW12 := Lib.hid ow12
                  clear ow12 bb12
                  refine ⟨?_, ?measure⟩
                  repeat apply Exists.intro
                  refine ⟨?rel, rfl⟩
                  case rel => exact ⟨k + 1, by omega, by go_num, OW12.out, B12, hE12⟩
                  case measure => simp [intOf]; omega
                · have hk8 : k = 8 := by omega
                  subst hk8
                  rw [outK_done] at ow
                  have htx := ow.text
                  clear ow
                  go_wp2
                  go_ret
                  exact ⟨by rw [HSUM.out]; rfl, by
                    have h1 : Below D w w5 := B5
                    have h2 : Below D w W8 := h1.trans (HB8.out.mono hDS)
                    have h3 : Below D w wr := h2.trans (hbk.mono (by omega))
                    have h4 := HDD.out
                    rw [← h4]; exact h3⟩
    · have hkz0 := hm
      have hkz := zeros_lt s.size k (by rw [← hMz.out]; exact hm) hk
      have hmi : ¬ (M : Int) % 64 = 56 := by omega
      go_wp2_with (at_builtin; refine wpList_appendM rfl (.tmp 34) (.tmp 35) rfl D _ (s.data.toList ++ [128] ++ List.replicate k 0) rfl (OW.out.alloc _) ⟨wr.heap.size, 0, none⟩ 1 1 [0] rfl rfl (by decide) (newsB wr 0) (by rw [HLl.out]; omega) (by simp; omega) ?_; intro v2 w2 ow2 bb2)
      have ow3 : OwnM w2 D v2 (s.data.toList ++ [128] ++ List.replicate (k + 1) 0) := by
        rw [List.replicate_succ', ← List.append_assoc]; exact ow2
      have B2 : Below D w w2 := (hb.alloc hbs _).trans bb2
      have hD2 : D ≤ w2.heap.size := Nat.le_trans (by simp; omega) bb2.size
      have hl2 : lenV v2 = M + 1 := by
        obtain ⟨g2, cap2, rfl, _⟩ := ow2.slice
        show (s.data.toList ++ [128] ++ List.replicate k 0 ++ [0]).length = _
        rw [List.length_append, HLl.out]; rfl
      have HO3 := Lib.hid ow3
      have HL2 := Lib.hid hl2
      clear ow2 bb2 ow3 hl2
      go_roundw
      case rel => exact ⟨k + 1, by omega, HO3.out, B2, hD2⟩
      case measure =>
        show s.size + 200 - lenV v2 < s.size + 200 - M
        have := hMz.out
        rw [HL2.out]; omega
end Go.Proofs.Ytdkhnklggidfpaa
