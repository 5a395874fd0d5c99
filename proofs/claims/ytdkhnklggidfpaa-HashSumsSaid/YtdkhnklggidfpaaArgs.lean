/- Lists of strings and of ints that came in, as they lie in memory, and how much of them there is. No conditions. -/
import Derived.Test.YtdkhnklggidfpaaCutw
import Derived.ProofKit
import Derived.OpenShut
import Derived.ShutString
import Derived.ChangeOld
import Derived.SizedLaws
import Derived.SliceStrings
import Derived.ChangeSlices
import Derived.JoinedCond
namespace Go.Proofs.Ytdkhnklggidfpaa
open Go.ChangeShapes Go.WideShapes Go.ChangeAt Go.RowKit
open Go.ChangeMaps (open_string shut_string)
set_option linter.unusedVariables false

theorem Try.own : ownKnob Try.prog.godebug = none := by kernel_rfl
theorem Try.laidOut : laidOutB Try.prog = true := by kernel_rfl
theorem Try.cells3 : Try.prog.cellsOf 3 = 1 := by kernel_rfl
theorem Try.cells9 : Try.prog.cellsOf 9 = 1 := by kernel_rfl

theorem bulk_strs {H : Type} : ∀ L : List ByteArray, (flat L).length + L.length ≤ Rows.uptoBulkAll (strs (H := H) L)
  | [] => by simp [flat]
  | x :: L => by
    have ih := bulk_strs (H := H) L
    have e1 : flat (x :: L) = x.data.toList ++ flat L := by simp [flat, bl]
    have e2 : Rows.uptoBulkAll (strs (H := H) (x :: L)) = (x.data.toList.length + 1) + Rows.uptoBulkAll (strs (H := H) L) := rfl
    rw [e1, e2, List.length_append, List.length_cons]; omega
theorem bulk_lits {H : Type} (k : IntKind) : ∀ L : List Int, L.length ≤ Rows.uptoBulkAll (lits (H := H) k L)
  | [] => by simp
  | x :: L => by
    have ih := bulk_lits (H := H) k L
    have e2 : Rows.uptoBulkAll (lits (H := H) k (x :: L)) = 1 + Rows.uptoBulkAll (lits (H := H) k L) := rfl
    rw [e2, List.length_cons]; omega

theorem strs_of {H : Type} {enc : TypeId × Value → H} {W : World} {base : Nat} {ao : Option Addr} {len cap : Nat} {d : DataW H} {p : List MemPlace}
    (h : DataW.Trod enc Try.prog W base (fun _ => true) true 27 (.slice ao len cap) d p) :
    ∃ xs : List ByteArray, xs.length = len ∧ LiesS W ao xs ∧ (flat xs).length + xs.length ≤ Rows.uptoBulk d := by
  obtain ⟨fuel, hf⟩ := h
  rcases open_strings Try.underlying27 Try.underlying9 Try.cells9 hf with ⟨hcs, hx⟩ | ⟨a, len', cap', ss, hcs, hb, hl, hm, hsl, hx, hc, hsz⟩
  · simp [Value.cells] at hcs
    obtain ⟨rfl, rfl, rfl⟩ := hcs
    exact ⟨[], rfl, fun i hi => by simp at hi, Nat.zero_le _⟩
  · simp [Value.cells] at hcs
    obtain ⟨rfl, rfl, rfl⟩ := hcs
    have hle : len ≤ ss.length := by rw [hsl]; simp; omega
    refine ⟨ss.take len, by simp; omega, ?_, ?_⟩
    · intro i hi
      have hi' : i < len := by simp at hi; omega
      have hci := hc i (by omega)
      refine ⟨a, rfl, ?_, ?_⟩
      · rw [hci]; simp [List.getD, List.getElem?_eq_getElem (show i < ss.length by omega)]
      · have := World.block_lt_of_cell? W _ hci
        rwa [add_block] at this
    · simp only [Prod.mk.injEq] at hx
      rw [hx.1]
      have := bulk_strs (H := H) (ss.take len)
      simp only [Rows.uptoBulk]
      omega

theorem ints_of {H : Type} {enc : TypeId × Value → H} {W : World} {base : Nat} {ao : Option Addr} {len cap : Nat} {d : DataW H} {p : List MemPlace}
    (h : DataW.Trod enc Try.prog W base (fun _ => true) true 39 (.slice ao len cap) d p) :
    ∃ Z : Nat → Int, IntsAt W ao len Z ∧ len ≤ Rows.uptoBulk d := by
  obtain ⟨fuel, hf⟩ := h
  rcases open_ints Try.underlying39 Try.underlying3 Try.cells3 hf with ⟨hcs, hx⟩ | ⟨a, len', cap', zs, hcs, hb, hl, hm, hsl, hx, hc, hsz⟩
  · simp [Value.cells] at hcs
    obtain ⟨rfl, rfl, rfl⟩ := hcs
    exact ⟨fun _ => 0, fun i hi => by omega, Nat.zero_le _⟩
  · simp [Value.cells] at hcs
    obtain ⟨rfl, rfl, rfl⟩ := hcs
    have hle : len ≤ zs.length := by rw [hsl]; simp; omega
    refine ⟨fun i => zs.getD i 0, ?_, ?_⟩
    · intro i hi
      have hci := hc i (by omega)
      refine ⟨a, rfl, hci, ?_⟩
      have := World.block_lt_of_cell? W _ hci
      rwa [add_block] at this
    · simp only [Prod.mk.injEq] at hx
      rw [hx.1]
      have := bulk_lits (H := H) .i64 (zs.take len)
      have e : (zs.take len).length = len := by simp; omega
      simp only [Rows.uptoBulk]
      omega
end Go.Proofs.Ytdkhnklggidfpaa
