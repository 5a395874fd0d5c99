/- A byte as it is told, a row of bytes: what the calls return; nothing that was there turns. Conditions: they are bytes. -/
import Derived.Test.YthejkelnjimogaaDoorPrt
namespace Go.Proofs.YthejkelnjimogaaDoor
open Go.RowKit
set_option linter.unusedVariables false

def hexC (q : Nat) : UInt8 := hexDig.getD q 0
def bytS (b : Nat) : Bs := if b < 32 ∨ 126 < b then [92, 120, hexC (b / 16), hexC (b % 16)] else if inB letBar (UInt8.ofNat b) then [92, UInt8.ofNat b] else [UInt8.ofNat b]
theorem hex_cut (q : Nat) (h : q < 16) : (⟨#[48, 49, 50, 51, 52, 53, 54, 55, 56, 57, 97, 98, 99, 100, 101, 102]⟩ : ByteArray).extract q (q + 1) = ⟨#[hexC q]⟩ := by
  have : q = 0 ∨ q = 1 ∨ q = 2 ∨ q = 3 ∨ q = 4 ∨ q = 5 ∨ q = 6 ∨ q = 7 ∨ q = 8 ∨ q = 9 ∨ q = 10 ∨ q = 11 ∨ q = 12 ∨ q = 13 ∨ q = 14 ∨ q = 15 := by omega
  rcases this with rfl | rfl | rfl | rfl | rfl | rfl | rfl | rfl | rfl | rfl | rfl | rfl | rfl | rfl | rfl | rfl <;> rfl
set_option maxRecDepth 20000 in
set_option maxHeartbeats 4000000 in
theorem byte_any (b : Nat) (w : World) (hb : b ≤ 255) : Calls Tryd.prog 58 #[.int .i64 (b : Nat)] w fun e w' => e = .returned (.string (str (bytS b))) ∧ Below w.heap.size w w' := by
  by_cases h1 : b < 32 ∨ 126 < b
  · unfold bytS
    rw [if_pos h1]
    have t1 : (b : Int).tdiv 16 = ((b / 16 : Nat) : Int) := by rw [Int.tdiv_eq_ediv_of_nonneg (by omega)]; omega
    have t2 : (b : Int).tmod 16 = ((b % 16 : Nat) : Int) := by rw [Int.tmod_eq_emod_of_nonneg (by omega)]; omega
    have hq : b / 16 < 16 := by omega
    have hr : b % 16 < 16 := by omega
    have e1 := hex_cut _ hq
    have e2 := hex_cut _ hr
    generalize b / 16 = q at *
    generalize b % 16 = r at *
    have q1 : (0 : Int) ≤ (q : Int) := by omega
    have q2 : (q : Int) < 16 := by omega
    have r1 : (0 : Int) ≤ (r : Int) := by omega
    have r2 : (r : Int) < 16 := by omega
    have fin : Hid (str [92, 120, hexC q, hexC r] = ⟨#[92, 120, hexC q, hexC r]⟩) := rfl
    rw [fin.out]
    generalize hexC q = a at *
    generalize hexC r = c at *
    have bel : Hid (∀ n, Below w.heap.size w (w.drewN n)) := fun n => below_drewN (Below.refl _ _) n
    clear hb hq hr
    rcases h1 with h1 | h1
    · have h1i : (b : Int) < 32 := by omega
      clear h1
      go_enter Tryd.func58, Tryd.ntmps58
      go_wp2
      go_quiet (fail)
      go_wp2
      go_ret
      exact ⟨rfl, bel.out _⟩
    · have h1i : (126 : Int) < (b : Int) := by omega
      have h2i : ¬ (b : Int) < 32 := by omega
      clear h1
      go_enter Tryd.func58, Tryd.ntmps58
      go_wp2
      go_quiet (fail)
      go_wp2
      go_ret
      exact ⟨rfl, bel.out _⟩
  · unfold bytS
    rw [if_neg h1]
    obtain ⟨c, rfl⟩ : ∃ c : UInt8, b = c.toNat := ⟨UInt8.ofNat b, by simp; omega⟩
    rw [UInt8.ofNat_toNat]
    have h1i : ¬ (126 : Int) < ((c.toNat : Nat) : Int) := by omega
    have h2i : ¬ ((c.toNat : Nat) : Int) < 32 := by omega
    have t1 : IntKind.u8.wrap ((c.toNat : Nat) : Int) = ((c.toNat : Nat) : Int) := by
      unfold IntKind.wrap
      simp only [IntKind.bits, IntKind.signed]
      simp
      omega
    have IX : Hid (∀ w, Calls Tryd.prog 72 #[.string ⟨#[92, 46, 91, 93, 40, 41, 124, 42, 43, 63, 123, 125, 94, 45]⟩, .int .u8 (c.toNat : Nat)] w fun e w' => e = .returned (.int .i64 (Lib.indexByte letBar c)) ∧ w = w') := fun w => idx_any ⟨#[92, 46, 91, 93, 40, 41, 124, 42, 43, 63, 123, 125, 94, 45]⟩ c w
    have bel : Hid (∀ o, Below w.heap.size w (w.alloc o)) := fun o => below_new w o
    have CV : (convert 40 9 (.slice (some ⟨w.heap.size, 0, none⟩) 1 1)).run Tryd.prog (w.alloc (.cells #[.int .u8 (c.toNat : Nat)] 5)) = .ok (.string ⟨#[c]⟩) (w.alloc (.cells #[.int .u8 (c.toNat : Nat)] 5)) := by
      refine run_convert_bytes_back (P := Tryd.prog) _ 40 9 5 ⟨w.heap.size, 0, none⟩ 1 [c] Tryd.underlying40 Tryd.underlying5 Tryd.underlying9 (fun i hi => ?_)
      have : i = 0 := by simp at hi; omega
      subst this
      rw [show (⟨w.heap.size, 0, none⟩ : Addr).add 0 = ⟨w.heap.size, 0, none⟩ by simp [Addr.add]]
      exact cell_at (heap_alloc_new w _) rfl
    have f1 : Hid (str [92, c] = ⟨#[92]⟩ ++ ⟨#[c]⟩) := rfl
    have f2 : Hid (str [c] = ⟨#[c]⟩) := rfl
    unfold inB
    have hneg := idx_neg letBar c
    generalize Lib.indexByte letBar c = ix at *
    clear h1 hb
    by_cases hix : 0 ≤ ix
    · rw [if_pos (by simpa using hix)]
      go_enter Tryd.func58, Tryd.ntmps58
      go_wp2_with (go_at_call 72; (with_reducible refine (IX.out _).mono ?_); rintro e w' ⟨rfl, rfl⟩)
      go_ret
      exact ⟨by rw [f1.out]; rfl, bel.out _⟩
    · rw [if_neg (by simpa using hix)]
      go_enter Tryd.func58, Tryd.ntmps58
      go_wp2_with (go_at_call 72; (with_reducible refine (IX.out _).mono ?_); rintro e w' ⟨rfl, rfl⟩)
      go_ret
      exact ⟨by rw [f2.out]; rfl, bel.out _⟩
theorem bytS_len (b : Nat) : 1 ≤ (bytS b).length ∧ (bytS b).length ≤ 4 := by
  unfold bytS
  split
  · simp
  · split <;> simp
def rowS (lo hi : Nat) : Bs := if hi - lo = 0 then bytS lo else if hi - lo = 1 then bytS lo ++ bytS hi else bytS lo ++ [45] ++ bytS hi
theorem str_add (a b : Bs) : str (a ++ b) = str a ++ str b := by
  apply ByteArray.ext
  simp [str]
theorem ret_str {a b : ByteArray} (h : a = b) : Ending.returned (.string a) = .returned (.string b) := by rw [h]
set_option maxHeartbeats 4000000 in
theorem row_any (lo hi : Nat) (w : World) (h : lo ≤ hi) (hb : hi ≤ 255) : Calls Tryd.prog 45 #[.int .i64 (lo : Nat), .int .i64 (hi : Nat)] w fun e w' => e = .returned (.string (str (rowS lo hi))) ∧ Below w.heap.size w w' := by
  have KL := Lib.hid (fun w => byte_any lo w (by omega))
  have KH := Lib.hid (fun w => byte_any hi w hb)
  have bl := bytS_len lo
  have bh := bytS_len hi
  have s1 := str_size (bytS lo)
  have s2 := str_size (bytS hi)
  have s3 : Hid (str (bytS lo ++ [45] ++ bytS hi) = str (bytS lo) ++ ⟨#[45]⟩ ++ str (bytS hi)) := by rw [str_add, str_add]; rfl
  have s4 : Hid (str (bytS lo ++ bytS hi) = str (bytS lo) ++ str (bytS hi)) := str_add _ _
  unfold rowS
  have bt : Hid (∀ w1 w2, Below w.heap.size w w1 → Below w1.heap.size w1 w2 → Below w.heap.size w w2) := fun w1 w2 a b => below_trans a b
  by_cases h0 : hi - lo = 0
  · obtain rfl : hi = lo := by omega
    rw [if_pos h0]
    have d0 : ((hi : Int) - (hi : Int)) = 0 := by omega
    clear h0 s3 s4
    generalize str (bytS hi) = x at *
    clear s1 s2 bl bh h hb
    go_enter Tryd.func45, Tryd.ntmps45
    go_wp2_with (go_at_call 58; (with_reducible refine (KL.out _).mono ?_); rintro e w1 ⟨rfl, g1⟩)
    go_ret
    exact ⟨rfl, g1⟩
  · rw [if_neg h0]
    by_cases h1 : hi - lo = 1
    · rw [if_pos h1, s4.out]
      have d0 : ((hi : Int) - (lo : Int)) = 1 := by omega
      have d2 : IntKind.i64.wrap ((hi : Int) - (lo : Int)) = 1 := by rw [d0]; decide
      have z1 : ¬ 9223372036854775807 < (str (bytS lo)).size + (str (bytS hi)).size := by omega
      generalize str (bytS hi) = x at *
      generalize str (bytS lo) = y at *
      clear h0 h1 s3 s4 s1 s2 bl bh
      have h1i : (lo : Int) ≤ (hi : Int) := by omega
      have h2i : (hi : Int) ≤ 255 := by omega
      have h3i : (0 : Int) ≤ (lo : Int) := by omega
      go_enter Tryd.func45, Tryd.ntmps45
      go_wp2_with (first
        | (go_at_call 58; (with_reducible refine (KL.out _).mono ?_); rintro e w1 ⟨rfl, g1⟩)
        | (go_at_call 58; (with_reducible refine (KH.out _).mono ?_); rintro e w2 ⟨rfl, g2⟩))
      go_ret
      exact ⟨rfl, bt.out _ _ g1 g2⟩
    · rw [if_neg h1, s3.out]
      have d0 : ((hi : Int) - (lo : Int) == 0) = false := by simp; omega
      have d2 : ((hi : Int) - (lo : Int) == 1) = false := by simp; omega
      have z0 : ¬ 9223372036854775807 < (str (bytS lo)).size + 1 := by omega
      have z1 : ¬ 9223372036854775807 < (str (bytS lo)).size + 1 + (str (bytS hi)).size := by omega
      generalize str (bytS hi) = x at *
      generalize str (bytS lo) = y at *
      clear h0 h1 s3 s4 s1 s2 bl bh
      have h1i : (lo : Int) ≤ (hi : Int) := by omega
      have h2i : (hi : Int) ≤ 255 := by omega
      have h3i : (0 : Int) ≤ (lo : Int) := by omega
      go_enter Tryd.func45, Tryd.ntmps45
      go_wp2_with (first
        | (go_at_call 58; (with_reducible refine (KL.out _).mono ?_); rintro e w1 ⟨rfl, g1⟩)
        | (go_at_call 58; (with_reducible refine (KH.out _).mono ?_); rintro e w2 ⟨rfl, g2⟩))
      go_ret
      exact ⟨rfl, bt.out _ _ g1 g2⟩
end Go.Proofs.YthejkelnjimogaaDoor
