/- The document's root of a prime: what the call returns; nothing that was there turns. Conditions: the number is below 512, the root the second or the third. -/
import Derived.Test.YtdkhnklggidfpaaRefb
namespace Go.Proofs.Ytdkhnklggidfpaa
open Go.RowKit
set_option linter.unusedVariables false

theorem rootX_lt (p n : Nat) : ∀ k, k ≤ 41 → rootX p n k + 2 ^ (41 - k) ≤ 2199023255552
  | 0, _ => by simp [rootX]
  | k + 1, h => by
    have ih := rootX_lt p n k (by omega)
    have e : 2 ^ (41 - k) = 2 ^ (40 - k) + 2 ^ (40 - k) := by rw [show 41 - k = (40 - k) + 1 by omega, Nat.pow_succ]; omega
    have e2 : 41 - (k + 1) = 40 - k := by omega
    rw [e] at ih
    rw [e2]
    simp only [rootX]
    have hpp := Nat.two_pow_pos (40 - k)
    split <;> omega
theorem digs_lt {y : Nat} (h : y ≤ 2199023255552) : ∀ x ∈ digs y, x < 65536 := by
  intro x hx
  simp only [digs, List.mem_cons, List.not_mem_nil, or_false] at hx
  rcases hx with rfl | rfl | rfl <;> omega
theorem powL_len (y : Nat) : ∀ i, (powL (digs y) i).length = 1 + 3 * i
  | 0 => rfl
  | i + 1 => by rw [powL, timesL_len, powL_len y i]; show 1 + 3 * i + 3 = _; omega
theorem powL_lt {d : List Nat} (h : ∀ x ∈ d, x < 65536) : ∀ i, ∀ x ∈ powL d i, x < 65536
  | 0 => by intro x hx; simp [powL] at hx; omega
  | i + 1 => timesL_lt (powL_lt h i) h
theorem times3 (g D cap L : Nat) (P : List Nat) (d0 d1 d2 : Nat) (w : World) (hL : P.length = L) (ha : RowU w g P) (hb : RowU w D [d0, d1, d2]) (la : L ≤ 64) (da : ∀ y ∈ P, y < 65536) (db : ∀ y ∈ [d0, d1, d2], y < 65536) :
    Calls Try.prog 45 #[.slice (some ⟨g, 0, none⟩) L cap, .slice (some ⟨D, 0, none⟩) 3 3] w fun e w' => e = .returned (.slice (some ⟨w.heap.size, 0, none⟩) (L + 3) (L + 3)) ∧ RowU w' w.heap.size (timesL P [d0, d1, d2]) ∧ Below w.heap.size w w' := by
  subst hL
  exact times_any g D cap 3 P [d0, d1, d2] w ha hb la (by show 3 ≤ 64; omega) da db
theorem above_L (g cap L : Nat) (a : List Nat) (p n : Nat) (b : Bool) (w : World) (hL : a.length = L) (hb : aboveL a p n = b) (ha : RowU w g a) (la : L ≤ 64) (hn : n ≤ 16) :
    Calls Try.prog 46 #[.slice (some ⟨g, 0, none⟩) L cap, .int .u64 (p : Nat), .int .i64 (n : Nat)] w fun e w' => e = .returned (.bool b) ∧ w = w' := by
  subst hL; subst hb
  exact above_any g cap a p n w ha la hn
theorem rowU3 (w : World) (a b c : Nat) : RowU (w.alloc (.cells #[.int .u64 (a : Nat), .int .u64 (b : Nat), .int .u64 (c : Nat)] 56)) w.heap.size [a, b, c] := RowU.of_block (l := [a, b, c]) (block_new w _)
theorem rowU1 (w : World) (a : Nat) : RowU (w.alloc (.cells #[.int .u64 (a : Nat)] 56)) w.heap.size [a] := RowU.of_block (l := [a]) (block_new w _)

set_option maxRecDepth 100000 in
set_option maxHeartbeats 2000000 in
theorem root_any (p n : Nat) (w : World) (hp : p < 512) (hn : n ≤ 3) :
    Calls Try.prog 37 #[.int .u64 (p : Nat), .int .i64 (n : Nat)] w fun e w' => e = .returned (.int .u32 (rootF p n : Nat)) ∧ Below w.heap.size w w' := by
  go_enter Try.func37, Try.ntmps37
  go_wp2
  go_loopw [5, 6, 7, 8, 9, 10] (fun x k _ _ _ _ wr => ∃ q : Int, -1 ≤ q ∧ q ≤ 40 ∧ k = .int .i64 q ∧ x = .int .u64 (rootX p n (40 - q).toNat : Nat) ∧ Below w.heap.size w wr) (fun _ k _ _ _ _ _ => (intOf k + 1).toNat)
  case atStart => exact ⟨40, by omega, by omega, rfl, rfl, Below.refl _ _⟩
  case round =>
    obtain ⟨q0, hq1, hq2, rfl, rfl, hb⟩ := hrel
    by_cases h0 : 0 ≤ q0
    · obtain ⟨q, rfl⟩ := Int.eq_ofNat_of_zero_le h0
      have hX := rootX_lt p n (40 - q) (by omega)
      have HN : Hid (rootX p n (40 - ((q : Int) - 1)).toNat = if aboveL (powL (digs (rootX p n (40 - q) + 2 ^ q)) n) p n then rootX p n (40 - q) else rootX p n (40 - q) + 2 ^ q) := by
        unfold Hid
        rw [show (40 - ((q : Int) - 1)).toNat = (40 - q) + 1 by omega]
        simp only [rootX]
        rw [show 40 - (40 - q) = q by omega]
      rw [show (40 - (q : Int)).toNat = 40 - q by omega]
      rw [show 41 - (40 - q) = q + 1 by omega, Nat.pow_succ] at hX
      generalize rootX p n (40 - q) = X at *
      have hpw : ((1 : Int) * 2 ^ q) = ((2 ^ q : Nat) : Int) := by simp
      obtain ⟨S, hS⟩ : ∃ S, S = 2 ^ q := ⟨_, rfl⟩
      rw [← hS] at hX HN hpw
      have HS := Lib.hid hS
      clear hS
      obtain ⟨Y, hY0⟩ : ∃ Y, Y = X + S := ⟨_, rfl⟩
      have hY : (X : Int) + (S : Int) = (Y : Int) := by omega
      have hYl : Y ≤ 2199023255552 := by omega
      rw [← hY0] at HN
      have hda := u64_and_nat Y 65535 (by omega) (by decide)
      have hdb := u64_and_nat (Y / 65536) 65535 (by omega) (by decide)
      rw [nat_mask16, show ((65535 : Nat) : Int) = 65535 from rfl] at hda hdb
      have hdl := digs_lt hYl
      have hpl := fun i => powL_lt hdl i
      have hpn := powL_len Y
      have hdd : digs Y = [Y % 65536, Y / 65536 % 65536, Y / 4294967296] := rfl
      have h16 : (Y : Int) / 65536 = ((Y / 65536 : Nat) : Int) := by omega
      have h32 : (Y : Int) / 4294967296 = ((Y / 4294967296 : Nat) : Int) := by omega
      rw [hdd] at hdl hpl hpn HN
      clear hdd hY0
      generalize Y % 65536 = d0 at *
      generalize Y / 65536 = e1 at *
      generalize e1 % 65536 = d1 at *
      generalize Y / 4294967296 = d2 at *
      have HPL := Lib.hid hpl
      have HPN := Lib.hid hpn
      have HDL := Lib.hid hdl
      obtain ⟨D, hD⟩ : ∃ D, D = wr.heap.size := ⟨_, rfl⟩
      have r3 : RowU ((wr.alloc (.cells #[.int .u64 (d0 : Nat), .int .u64 (d1 : Nat), .int .u64 (d2 : Nat)] 56)).alloc (.cells #[.int .u64 1] 56)) D [d0, d1, d2] := by
        rw [hD]
        exact (rowU3 wr d0 d1 d2).below ((Below.refl _ _).alloc (Nat.le_refl _) _) (by simp)
      have r1 : RowU ((wr.alloc (.cells #[.int .u64 (d0 : Nat), .int .u64 (d1 : Nat), .int .u64 (d2 : Nat)] 56)).alloc (.cells #[.int .u64 1] 56)) (D + 1) [1] := by
        have h := rowU1 (wr.alloc (.cells #[.int .u64 (d0 : Nat), .int .u64 (d1 : Nat), .int .u64 (d2 : Nat)] 56)) 1
        rw [show (wr.alloc (.cells #[.int .u64 (d0 : Nat), .int .u64 (d1 : Nat), .int .u64 (d2 : Nat)] 56)).heap.size = D + 1 by rw [hD]; simp] at h
        exact h
      have b3 : Below w.heap.size w ((wr.alloc (.cells #[.int .u64 (d0 : Nat), .int .u64 (d1 : Nat), .int .u64 (d2 : Nat)] 56)).alloc (.cells #[.int .u64 1] 56)) := (hb.alloc hb.size _).alloc (by have := hb.size; simp; omega) _
      have HD := Lib.hid hD
      clear hD hpl hpn hdl
      go_wp2
      rw [← HD.out]
      clear hda hdb h16 h32 hpw hb
      go_loopw [9, 10] (fun al i wr => ∃ (i' : Nat) (g cap : Nat), i' ≤ n ∧ i = .int .i64 (i' : Nat) ∧ al = .slice (some ⟨g, 0, none⟩) (1 + 3 * i') cap ∧ RowU wr g (powL [d0, d1, d2] i') ∧ RowU wr D [d0, d1, d2] ∧ Below w.heap.size w wr) (fun _ i _ => n - (intOf i).toNat)
      case atStart => exact ⟨0, D + 1, 1, by omega, rfl, rfl, r1, r3, b3⟩
      case round =>
        obtain ⟨i', g, cap, hi', rfl, rfl, ra, rd, hb⟩ := hrel
        clear r1 r3 b3
        by_cases hlt : i' < n
        · go_wp2_with (go_at_call 45; refine (times3 g D cap (1 + 3 * i') _ d0 d1 d2 _ (HPN.out i') ra rd (by omega) (HPL.out i') HDL.out).mono ?_; rintro e w5 ⟨rfl, r5, b5⟩)
          go_roundw
          case rel => exact ⟨i' + 1, _, _, by omega, by go_num, rfl, r5, rd.below b5 rd.1, hb.trans (b5.mono hb.size)⟩
          case measure => simp [intOf]; omega
        · have hin : i' = n := by omega
          subst hin
          by_cases hab : aboveL (powL [d0, d1, d2] i') p i' = true
          · rw [if_pos hab] at HN
            have HAB := Lib.hid hab
            clear hab
            go_wp2_with (go_at_call 46; refine (above_L g cap (1 + 3 * i') _ p i' true _ (HPN.out i') HAB.out ra (by omega) (by omega)).mono ?_; rintro e w5 ⟨rfl, rfl⟩)
            go_roundw
            case rel => exact ⟨(q : Int) - 1, by omega, by omega, rfl, by rw [HN.out], hb⟩
            case measure => simp [intOf]
          · rw [if_neg hab] at HN
            have hab2 : aboveL (powL [d0, d1, d2] i') p i' = false := by simpa using hab
            have HAB := Lib.hid hab2
            clear hab hab2
            go_wp2_with (go_at_call 46; refine (above_L g cap (1 + 3 * i') _ p i' false _ (HPN.out i') HAB.out ra (by omega) (by omega)).mono ?_; rintro e w5 ⟨rfl, rfl⟩)
            go_roundw
            case rel => exact ⟨(q : Int) - 1, by omega, by omega, rfl, by rw [HN.out], hb⟩
            case measure => simp [intOf]
    · have hq : q0 = -1 := by omega
      subst hq
      have hX := rootX_lt p n 41 (by omega)
      rw [show (40 - (-1 : Int)).toNat = 41 from rfl]
      have hroot : rootF p n = rootX p n 41 % 4294967296 := rfl
      generalize rootX p n 41 = X at *
      have hda := u64_and_nat X 4294967295 (by omega) (by decide)
      rw [nat_mask32, show ((4294967295 : Nat) : Int) = 4294967295 from rfl] at hda
      have HR := Lib.hid hroot
      clear hroot
      go_wp2
      go_ret
      exact ⟨ret_int (by rw [HR.out]; omega), hb⟩
end Go.Proofs.Ytdkhnklggidfpaa
