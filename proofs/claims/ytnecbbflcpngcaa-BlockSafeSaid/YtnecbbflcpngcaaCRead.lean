/- A reader of the code in memory, and what its one generic function does, at numbers and at texts: what is answered, where the reader then stands, its fault; of all else that was there nothing turns. Conditions: it stands within its bytes, which are at most maxLen. -/
import Derived.Test.YtnecbbflcpngcaaCPut
import Derived.RegionTactic
import Derived.ChangeAlike
import Derived.BigRegion
import Derived.Deep.QuietTactic
import Derived.BigQuiet
import Derived.StillTailTactics
import Derived.Lib.BufferWrite
import Derived.Lib.UnsafeStr
import Derived.WalkMore
import Derived.ScopeJumps
namespace Go.Proofs.Ytnecbbflcpngcaa.Cd
open Go.RowKit
set_option maxRecDepth 20000

/-- a scope whose gotos go forward to one label, behind which none stands -/
theorem wp_scope_once {P : Program} {a : Act} {w : World} {Q : Exit → Act → World → Prop} {c rest : Code} (l : Nat) (hf : findLabel c l = some rest)
    (h : c.wp P (Exit.jump l (fun a w => rest.wp P (Exit.noGoto Q) a w) Q) a w) : (Code.scope c).wp P Q a w :=
  wp_scope_jumps l _ (fun _ _ => 0) hf h fun _ _ hJ => wp_mono hJ fun e _ _ hq => by
    cases e with
    | goto l' => exact hq.elim
    | _ => exact hq

/-- a reader in memory: its bytes, its place, its fault -/
def Rdr (w : World) (b : Nat) (s : ByteArray) (p : Nat) (e : Int) : Prop := w.heap[b]? = some (.cells #[.string s, .int .i64 (p : Int), .int .i64 e] 121 (0, 0))

theorem Rdr.c0 {w : World} {b : Nat} {s : ByteArray} {p : Nat} {e : Int} (h : Rdr w b s p e) : w.cell? ⟨b, 0, none⟩ = some (.string s) := by rw [cell_of_row w b 0 _ _ _ h]; rfl
theorem Rdr.c1 {w : World} {b : Nat} {s : ByteArray} {p : Nat} {e : Int} (h : Rdr w b s p e) : w.cell? ⟨b, 1, none⟩ = some (.int .i64 (p : Int)) := by rw [cell_of_row w b 1 _ _ _ h]; rfl
theorem Rdr.c2 {w : World} {b : Nat} {s : ByteArray} {p : Nat} {e : Int} (h : Rdr w b s p e) : w.cell? ⟨b, 2, none⟩ = some (.int .i64 e) := by rw [cell_of_row w b 2 _ _ _ h]; rfl
theorem Rdr.f1 {w : World} {b : Nat} {s : ByteArray} {p : Nat} {e : Int} (h : Rdr w b s p e) : w.frozen? ⟨b, 1, none⟩ = false := block_free h
theorem Rdr.f2 {w : World} {b : Nat} {s : ByteArray} {p : Nat} {e : Int} (h : Rdr w b s p e) : w.frozen? ⟨b, 2, none⟩ = false := block_free h
theorem Rdr.lt {w : World} {b : Nat} {s : ByteArray} {p : Nat} {e : Int} (h : Rdr w b s p e) : b < w.heap.size := block_lt h


theorem Rdr.alloc {w : World} {b : Nat} {s : ByteArray} {p : Nat} {e : Int} (h : Rdr w b s p e) (o : Obj) : Rdr (w.alloc o) b s p e := by
  unfold Rdr
  rw [Below.heap_alloc _ _ _ h.lt]; exact h
theorem Rdr.drewN {w : World} {b : Nat} {s : ByteArray} {p : Nat} {e : Int} (h : Rdr w b s p e) (n : Nat) : Rdr (w.drewN n) b s p e := h
theorem Rdr.set1 {w : World} {b : Nat} {s : ByteArray} {p : Nat} {e : Int} (h : Rdr w b s p e) (q : Nat) : Rdr (w.setCell ⟨b, 1, none⟩ (.int .i64 (q : Int))) b s q e := by
  unfold Rdr; rw [block_setCell h]; rfl
theorem Rdr.set2 {w : World} {b : Nat} {s : ByteArray} {p : Nat} {e : Int} (h : Rdr w b s p e) (x : Int) : Rdr (w.setCell ⟨b, 2, none⟩ (.int .i64 x)) b s p x := by
  unfold Rdr; rw [block_setCell h]; rfl
theorem Rdr.kept {w w' : World} {b : Nat} {s : ByteArray} {p : Nat} {e : Int} (h : Rdr w b s p e) {row : Option Nat} (hg : w.grownBy w' row) (hb : some b ≠ row) : Rdr w' b s p e := by
  unfold Rdr
  rw [hg.block b h.lt hb]; exact h
theorem Rdr.below {w w' : World} {b : Nat} {s : ByteArray} {p : Nat} {e : Int} (h : Rdr w b s p e) (hb : Below w.heap.size w w') : Rdr w' b s p e := by
  unfold Rdr
  rw [hb.block b h.lt]; exact h

theorem gr_refl (w : World) (row : Option Nat) : w.grownBy w row := ⟨rfl, rfl, rfl, Nat.le_refl _, fun _ _ _ => rfl⟩
theorem gr_trans {a b c : World} {row : Option Nat} (h : a.grownBy b row) (k : b.grownBy c row) : a.grownBy c row :=
  ⟨k.os.trans h.os, k.tape.trans h.tape, k.output.trans h.output, Nat.le_trans h.size k.size, fun i hi hn => (k.block i (Nat.lt_of_lt_of_le hi h.size) hn).trans (h.block i hi hn)⟩
theorem gr_drewN {a w : World} {row : Option Nat} (h : a.grownBy w row) (n : Nat) : a.grownBy (w.drewN n) row := ⟨h.os, h.tape, h.output, h.size, h.block⟩
theorem gr_drew {a w : World} {row : Option Nat} (h : a.grownBy w row) : a.grownBy w.drew row := ⟨h.os, h.tape, h.output, h.size, h.block⟩
theorem gr_alloc {a w : World} {row : Option Nat} (h : a.grownBy w row) (o : Obj) : a.grownBy (w.alloc o) row := gr_trans h (World.grownBy_alloc w o row)
theorem gr_set {a w : World} {g : Nat} (h : a.grownBy w (some g)) (o : Nat) (u : Value) : a.grownBy (w.setCell ⟨g, o, none⟩ u) (some g) :=
  gr_trans h ⟨rfl, rfl, rfl, by simp [World.setCell], fun i _ hn => Below.heap_setCell w _ u i (fun e => hn (by rw [e]))⟩
theorem gr_below {a w : World} (h : Below a.heap.size a w) (row : Option Nat) : a.grownBy w row := ⟨h.os, h.tape, h.output, h.size, fun i hi _ => h.block i hi⟩


theorem ext_ext (s : ByteArray) (p a c : Nat) (_hc : c ≤ s.size - p) (hp : p ≤ s.size) : (s.extract p s.size).extract a c = s.extract (p + a) (p + c) := by
  rw [ByteArray.extract_extract]
  congr 1
  omega
theorem ext_size (s : ByteArray) (a c : Nat) (h : c ≤ s.size) : (s.extract a c).size = c - a := by
  rw [ByteArray.size_extract]; omega
theorem ext_list (s : ByteArray) (p m : Nat) : (s.extract p (p + m)).data.toList = (s.data.toList.drop p).take m := by
  simp [ByteArray.data_extract]

theorem sclone_any (s : ByteArray) (w : World) (hlim : s.size ≤ 281474976710656) :
    Calls Try.prog 98 #[.string s] w fun e w' => e = .returned (.string s) ∧ Below w.heap.size w w' := by
  by_cases h0 : s.size = 0
  · have hs : s = ⟨#[]⟩ := ByteArray.ext (Array.eq_empty_of_size_eq_zero h0)
    subst hs
    go_enter Try.func98, Try.ntmps98
    go_wp2
    go_ret
    exact ⟨rfl, Below.refl _ _⟩
  · obtain ⟨i0, hi, hz0, hz1, hz2⟩ := info_parts Try.info5
    have hinfo : (Try.prog.info? 5).map (·.size) = some 1 := by rw [hi]; simp [hz1]
    have hco : Try.prog.cellsOf 5 = 1 := by kernel_rfl
    obtain ⟨M, hM⟩ : ∃ M, M = madeCells (Value.int .u8 0).cells (((s.size : Nat) : Int).toNat * i0.size) := ⟨_, rfl⟩
    have hMs : M.size = s.size := by rw [hM, size_madeCells, hz1]; simp
    have hmk := run_make (P := Try.prog) w 30 5 i0 _ Try.underlying30 hi hz0 .i64 .i64 (s.size : Int) (s.size : Int) (by omega) (by omega) (by rw [hz2]; omega) (by omega)
    rw [← hM] at hmk
    simp only [Int.toNat_natCast] at hmk
    clear hM
    have hcp := Lib.run_copy_row_string (P := Try.prog) (w.alloc (.cells M 5)) 30 9 3 5 w.heap.size 0 s.size s.size s M 5 Try.underlying30 hinfo (block_new w _) (Nat.le_refl _) (by omega)
    obtain ⟨Y, hY⟩ : ∃ Y, Y = (M.toList.take 0 ++ Lib.byteCells s.data.toList ++ M.toList.drop (0 + s.size)).toArray := ⟨_, rfl⟩
    rw [← hY] at hcp
    have hYl : Y.toList = Lib.byteCells s.data.toList := by
      rw [hY, List.toList_toArray, List.take_zero, List.nil_append, List.drop_of_length_le (by rw [Array.length_toList]; omega), List.append_nil]
    have hYs : Y.size = s.size := by rw [← Array.length_toList, hYl, Lib.byteCells_length, ← Lib.size_eq]
    have hgY : ((w.alloc (.cells M 5)).setRow w.heap.size Y).heap[w.heap.size]? = some (.cells Y 5 (0, 0)) := setRow_heap _ _ M _ 5 (0, 0) (block_new w _)
    have hne : s.data.toList ≠ [] := fun e => h0 (by rw [Lib.size_eq, e]; rfl)
    have hUS := Lib.run_unsafeString_row (P := Try.prog) ((w.alloc (.cells M 5)).setRow w.heap.size Y) 136 3 9 5 Try.underlying136 hco w.heap.size Y.size (by unfold World.shape?; rw [hgY]) s.data.toList hne (by rw [← Lib.size_eq]; omega) (by rw [← Lib.size_eq]; omega)
      (fun j x hx => Lib.cells_of_row hgY Y.size j _ (by rw [List.take_of_length_le (by rw [Array.length_toList]; exact Nat.le_refl _), hYl]; simp [Lib.byteCells, hx]))
    rw [← Lib.size_eq] at hUS
    clear hY
    go_enter Try.func98, Try.ntmps98
    go_wp2
    go_ret
    have hb1 : Below w.heap.size w (w.alloc (.cells M 5)) := (Below.refl _ w).alloc (Nat.le_refl _) _
    have hb2 : Below w.heap.size (w.alloc (.cells M 5)) ((w.alloc (.cells M 5)).setRow w.heap.size Y) := ⟨rfl, rfl, rfl, by simp, fun k hk => setRow_other _ _ _ _ (by omega)⟩
    exact ⟨rfl, Lib.below_freeze (hb1.trans hb2) (p := ⟨w.heap.size, 0, none⟩) (Nat.le_refl _) _⟩

theorem clone_str (s : ByteArray) (w : World) (hlim : s.size ≤ 281474976710656) :
    Calls Try.prog 76 #[.string s] w fun e w' => e = .returned (.string s) ∧ Below w.heap.size w w' := by
  go_enter Try.func76, Try.ntmps76
  go_wp2_with (go_at_call 98; refine (sclone_any _ _ hlim).mono ?_; rintro e w1 ⟨rfl, hb⟩)
  go_ret
  exact ⟨rfl, hb⟩


end Go.Proofs.Ytnecbbflcpngcaa.Cd
