/- Sets of bytes by value: all others, all bytes, one expression of a set: what the calls return; nothing that was there turns. No conditions. -/
import Derived.Test.YtdmajbdgjjmlkaaHex
namespace Go.Proofs.Ytdmajbdgjjmlkaa
open Go.RowKit
set_option linter.unusedVariables false

def S4.val (s : S4) : Value := .agg #[.int .u64 (s.a : Nat), .int .u64 (s.b : Nat), .int .u64 (s.c : Nat), .int .u64 (s.d : Nat)]
def Rx.val (v : Value) (t : Rx) : Value := .agg (t.cells v)
def S4.ok (s : S4) : Prop := s.a < 18446744073709551616 ∧ s.b < 18446744073709551616 ∧ s.c < 18446744073709551616 ∧ s.d < 18446744073709551616
/-- behind j of the four -/
def oth (a b c d : Nat) : Nat → Array Value
  | 0 => #[.int .u64 (a : Int), .int .u64 (b : Int), .int .u64 (c : Int), .int .u64 (d : Int)]
  | 1 => #[.int .u64 (18446744073709551615 - (a : Int)), .int .u64 (b : Int), .int .u64 (c : Int), .int .u64 (d : Int)]
  | 2 => #[.int .u64 (18446744073709551615 - (a : Int)), .int .u64 (18446744073709551615 - (b : Int)), .int .u64 (c : Int), .int .u64 (d : Int)]
  | 3 => #[.int .u64 (18446744073709551615 - (a : Int)), .int .u64 (18446744073709551615 - (b : Int)), .int .u64 (18446744073709551615 - (c : Int)), .int .u64 (d : Int)]
  | _ => #[.int .u64 (18446744073709551615 - (a : Int)), .int .u64 (18446744073709551615 - (b : Int)), .int .u64 (18446744073709551615 - (c : Int)), .int .u64 (18446744073709551615 - (d : Int))]
theorem cell_at {w : World} {b o : Nat} {C : Array Value} {t : TypeId} {u : Value} (h : w.heap[b]? = some (.cells C t (0, 0))) (hu : C[o]? = some u) : w.cell? ⟨b, o, none⟩ = some u := by rw [cell_of_row _ _ _ _ _ _ h]; exact hu
theorem free_at {w : World} {b o : Nat} {C : Array Value} {t : TypeId} (h : w.heap[b]? = some (.cells C t (0, 0))) : w.frozen? ⟨b, o, none⟩ = false := by simp [World.frozen?, h]
theorem bits_xor64 (m : Nat) (h : (m : Int) < 18446744073709551616) : bits .xor .u64 (if IntKind.u64.signed = true then -1 else IntKind.u64.max) (m : Int) = 18446744073709551615 - (m : Int) := by
  have hm : m < 2 ^ 64 := by omega
  show IntKind.u64.wrap ((BitVec.ofInt 64 18446744073709551615 ^^^ BitVec.ofInt 64 (m : Int)).toNat : Int) = _
  have e : (BitVec.ofInt 64 18446744073709551615 ^^^ BitVec.ofInt 64 (m : Int)) = ~~~ BitVec.ofNat 64 m := by
    rw [show BitVec.ofInt 64 18446744073709551615 = BitVec.allOnes 64 by decide, BitVec.ofInt_natCast, BitVec.allOnes_xor]
  rw [e, BitVec.toNat_not, BitVec.toNat_ofNat, Nat.mod_eq_of_lt hm]
  have h2 : (2 ^ 64 - 1 - m : Nat) = 18446744073709551615 - m := by omega
  rw [h2]
  unfold IntKind.wrap
  simp only [IntKind.bits, IntKind.signed]
  have h3 : ((18446744073709551615 - m : Nat) : Int) = 18446744073709551615 - (m : Int) := by omega
  rw [h3]
  simp
  omega
set_option maxHeartbeats 4000000 in
theorem others_any (s : S4) (w : World) (hs : s.ok) : Calls Try.prog 82 #[s.val] w fun e w' => e = .returned s.others.val ∧ Below w.heap.size w w' := by
  obtain ⟨a, b, c, d⟩ := s
  obtain ⟨ha, hb, hc, hd⟩ := hs
  dsimp only at ha hb hc hd
  have fin : Hid (∀ e : Ending, e = .returned (.agg #[.int .u64 (18446744073709551615 - (a : Int)), .int .u64 (18446744073709551615 - (b : Int)), .int .u64 (18446744073709551615 - (c : Int)), .int .u64 (18446744073709551615 - (d : Int))]) → e = .returned (S4.others ⟨a, b, c, d⟩).val) := fun e h => by
    rw [h]
    simp only [S4.others, S4.val]
    rw [show ((18446744073709551615 - a : Nat) : Int) = 18446744073709551615 - (a : Int) by omega, show ((18446744073709551615 - b : Nat) : Int) = 18446744073709551615 - (b : Int) by omega, show ((18446744073709551615 - c : Nat) : Int) = 18446744073709551615 - (c : Int) by omega, show ((18446744073709551615 - d : Nat) : Int) = 18446744073709551615 - (d : Int) by omega]
  unfold S4.val
  dsimp only
  obtain ⟨X, hX⟩ : ∃ X, X = w.heap.size := ⟨_, rfl⟩
  have hzz : w.heap.size = X := hX.symm
  have h0 : ∀ o2, ((w.alloc (.cells #[.int .u64 (a : Int), .int .u64 (b : Int), .int .u64 (c : Int), .int .u64 (d : Int)] 103)).alloc o2).heap[X]? = some (.cells #[.int .u64 (a : Int), .int .u64 (b : Int), .int .u64 (c : Int), .int .u64 (d : Int)] 103 (0, 0)) := fun o2 => by
    rw [Below.heap_alloc _ o2 X (by rw [hX]; simp), hX]; exact heap_alloc_new w _
  have hR : ∀ o2, ((w.alloc (.cells #[.int .u64 (a : Int), .int .u64 (b : Int), .int .u64 (c : Int), .int .u64 (d : Int)] 103)).alloc o2).heap[X + 1]? = some o2 := fun o2 => by
    have := heap_alloc_new (w.alloc (.cells #[.int .u64 (a : Int), .int .u64 (b : Int), .int .u64 (c : Int), .int .u64 (d : Int)] 103)) o2
    rw [hX]; simpa using this
  have hb0 : ∀ o2, Below X w ((w.alloc (.cells #[.int .u64 (a : Int), .int .u64 (b : Int), .int .u64 (c : Int), .int .u64 (d : Int)] 103)).alloc o2) := fun o2 => by rw [hX]; exact below_trans (below_new w _) (below_new _ o2)
  have H0 := Lib.hid h0
  have HR := Lib.hid hR
  have HB := Lib.hid hb0
  have ha1 : (a : Int) < 18446744073709551616 := by omega
  have ha2 : 0 ≤ (a : Int) := by omega
  have hb1 : (b : Int) < 18446744073709551616 := by omega
  have hb2 : 0 ≤ (b : Int) := by omega
  have hc1 : (c : Int) < 18446744073709551616 := by omega
  have hc2 : 0 ≤ (c : Int) := by omega
  have hd1 : (d : Int) < 18446744073709551616 := by omega
  have hd2 : 0 ≤ (d : Int) := by omega
  rw [hzz]
  clear hX h0 hR hb0 ha hb hc hd
  go_enter Try.func82, Try.ntmps82
  go_wp2
  go_loopw [4] (fun i wr => ∃ j : Nat, j ≤ 4 ∧ i = .int .i64 j ∧ wr.heap[X]? = some (.cells (oth a b c d j) 103 (0, 0)) ∧ wr.heap[X + 1]? = some (.cells #[.int .u64 0, .int .u64 0, .int .u64 0, .int .u64 0] 103 (0, 0)) ∧ Below X w wr) (fun i _ => 4 - (intOf i).toNat)
  case atStart => exact ⟨0, by omega, rfl, H0.out _, HR.out _, HB.out _⟩
  case round =>
    obtain ⟨j, hj, rfl, hx, hr, hbl⟩ := hrel
    have hj2 : j = 0 ∨ j = 1 ∨ j = 2 ∨ j = 3 ∨ j = 4 := by omega
    clear hj
    rcases hj2 with rfl | rfl | rfl | rfl | rfl
    · have hx2 : wr.heap[X]? = some (.cells #[.int .u64 (a : Int), .int .u64 (b : Int), .int .u64 (c : Int), .int .u64 (d : Int)] 103 (0, 0)) := hx
      have c0 : wr.cell? ⟨X, 0, none⟩ = some (.int .u64 (a : Int)) := cell_at hx2 rfl
      have f0 := free_at (o := 0) hx2
      have e0 : ((0 : Nat) : Int) = 0 := rfl
      have hr2 := hr
      clear hx hr
      simp only [e0]
      go_wp2
      rw [bits_xor64 _ ha1]
      exact ⟨⟨1, by omega, rfl, block_setCell hx2, (heap_setCell_other _ _ _ _ (by show X + 1 ≠ X; omega)).trans hr2, hbl.setCell (by exact Nat.le_refl _) _⟩, by simp [intOf]⟩
    · have hx2 : wr.heap[X]? = some (.cells #[.int .u64 (18446744073709551615 - (a : Int)), .int .u64 (b : Int), .int .u64 (c : Int), .int .u64 (d : Int)] 103 (0, 0)) := hx
      have c0 : wr.cell? ⟨X, 1, none⟩ = some (.int .u64 (b : Int)) := cell_at hx2 rfl
      have f0 := free_at (o := 1) hx2
      have e1 : ((1 : Nat) : Int) = 1 := rfl
      have hr2 := hr
      clear hx hr
      simp only [e1]
      go_wp2
      rw [bits_xor64 _ hb1]
      exact ⟨⟨2, by omega, rfl, block_setCell hx2, (heap_setCell_other _ _ _ _ (by show X + 1 ≠ X; omega)).trans hr2, hbl.setCell (by exact Nat.le_refl _) _⟩, by simp [intOf]⟩
    · have hx2 : wr.heap[X]? = some (.cells #[.int .u64 (18446744073709551615 - (a : Int)), .int .u64 (18446744073709551615 - (b : Int)), .int .u64 (c : Int), .int .u64 (d : Int)] 103 (0, 0)) := hx
      have c0 : wr.cell? ⟨X, 2, none⟩ = some (.int .u64 (c : Int)) := cell_at hx2 rfl
      have f0 := free_at (o := 2) hx2
      have e2 : ((2 : Nat) : Int) = 2 := rfl
      have hr2 := hr
      clear hx hr
      simp only [e2]
      go_wp2
      rw [bits_xor64 _ hc1]
      exact ⟨⟨3, by omega, rfl, block_setCell hx2, (heap_setCell_other _ _ _ _ (by show X + 1 ≠ X; omega)).trans hr2, hbl.setCell (by exact Nat.le_refl _) _⟩, by simp [intOf]⟩
    · have hx2 : wr.heap[X]? = some (.cells #[.int .u64 (18446744073709551615 - (a : Int)), .int .u64 (18446744073709551615 - (b : Int)), .int .u64 (18446744073709551615 - (c : Int)), .int .u64 (d : Int)] 103 (0, 0)) := hx
      have c0 : wr.cell? ⟨X, 3, none⟩ = some (.int .u64 (d : Int)) := cell_at hx2 rfl
      have f0 := free_at (o := 3) hx2
      have e3 : ((3 : Nat) : Int) = 3 := rfl
      have hr2 := hr
      clear hx hr
      simp only [e3]
      go_wp2
      rw [bits_xor64 _ hd1]
      exact ⟨⟨4, by omega, rfl, block_setCell hx2, (heap_setCell_other _ _ _ _ (by show X + 1 ≠ X; omega)).trans hr2, hbl.setCell (by exact Nat.le_refl _) _⟩, by simp [intOf]⟩
    · have hx2 : wr.heap[X]? = some (.cells #[.int .u64 (18446744073709551615 - (a : Int)), .int .u64 (18446744073709551615 - (b : Int)), .int .u64 (18446744073709551615 - (c : Int)), .int .u64 (18446744073709551615 - (d : Int))] 103 (0, 0)) := hx
      have c0 : wr.cell? ⟨X, 0, none⟩ = some (.int .u64 (18446744073709551615 - (a : Int))) := cell_at hx2 rfl
      have c1 : wr.cell? ⟨X, 1, none⟩ = some (.int .u64 (18446744073709551615 - (b : Int))) := cell_at hx2 rfl
      have c2 : wr.cell? ⟨X, 2, none⟩ = some (.int .u64 (18446744073709551615 - (c : Int))) := cell_at hx2 rfl
      have c3 : wr.cell? ⟨X, 3, none⟩ = some (.int .u64 (18446744073709551615 - (d : Int))) := cell_at hx2 rfl
      have r0 : wr.cell? ⟨X + 1, 0, none⟩ = some (.int .u64 0) := cell_at hr rfl
      have r1 : wr.cell? ⟨X + 1, 1, none⟩ = some (.int .u64 0) := cell_at hr rfl
      have r2 : wr.cell? ⟨X + 1, 2, none⟩ = some (.int .u64 0) := cell_at hr rfl
      have r3 : wr.cell? ⟨X + 1, 3, none⟩ = some (.int .u64 0) := cell_at hr rfl
      have g0 : ∀ o, wr.frozen? ⟨X, o, none⟩ = false := fun o => free_at hx2
      have g1 : ∀ o, wr.frozen? ⟨X + 1, o, none⟩ = false := fun o => free_at hr
      have Hx := Lib.hid hx2
      have Hr := Lib.hid hr
      clear hx hr hx2
      have e4 : ((4 : Nat) : Int) = 4 := rfl
      simp only [e4]
      go_wp2
      exact bodyPost_ret (v := .agg #[.int .u64 (18446744073709551615 - (a : Int)), .int .u64 (18446744073709551615 - (b : Int)), .int .u64 (18446744073709551615 - (c : Int)), .int .u64 (18446744073709551615 - (d : Int))]) (by simp [results, Try.results82, go_sem, r0, r1, r2, r3]) rfl ⟨fin.out _ rfl, ((((hbl.setCell (by show X ≤ X + 1; omega) _).setCell (by show X ≤ X + 1; omega) _).setCell (by show X ≤ X + 1; omega) _).setCell (by show X ≤ X + 1; omega) _)⟩
set_option maxHeartbeats 1000000 in
theorem anyOf_any (s : S4) (w : World) : Calls Try.prog 74 #[s.val] w fun e w' => e = .returned ((anyR s).val (.slice none 0 0)) ∧ Below w.heap.size w w' := by
  obtain ⟨a, b, c, d⟩ := s
  unfold anyR S4.val Rx.val
  dsimp only [Rx.cells, cellsX]
  have bel : Hid (∀ o o2, Below w.heap.size w ((w.alloc o).alloc o2)) := fun o o2 => below_trans (below_new w o) (below_new _ o2)
  go_enter Try.func74, Try.ntmps74
  go_wp2
  exact bodyPost_ret (v := .agg #[.int .i64 0, .int .i64 0, .int .i64 0, .int .u64 (a : Nat), .int .u64 (b : Nat), .int .u64 (c : Nat), .int .u64 (d : Nat), .slice none 0 0]) (by simp [results, Try.results74, go_sem]) rfl ⟨rfl, bel.out _ _⟩
end Go.Proofs.Ytdmajbdgjjmlkaa
