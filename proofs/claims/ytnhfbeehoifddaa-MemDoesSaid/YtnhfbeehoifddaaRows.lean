/-
  No cell of these rows narrows 'for every input' (looked for: loops, veiled, ifaces, maps, wideKeys, modest, calm, conditions, laid).
  DERIVED. THE GIVEN ROWS OF THIS SEAT. 7 by the template 'for every input the law returns true; each argument reads behind the call as it read before'; 0 by the template 'total and deterministic' (their statements: YtnhfbeehoifddaaTotals.lean).
  GIVEN WITH THE SEED: the statements are not yours to turn. If you find one false, say at which input.
  Laid BY PROGRAM, IN A SANDBOX (cutbox-rows.mjs): the forced cells as the released guide's own fill.sh prints them over the translation f120a67ac8c6abeb… (all of the seat's roots in one cut). By AI agents, Wed Nov 11 2026. No macro, syntax, notation, axiom, sorry.
-/
import Derived.Test.YtnhfbeehoifddaaChecked
import GoSem.Claim
import GoSem.ClaimJoined
import GoSem.ClaimMapViews
import Derived.JoinedTies
import Derived.KernelRfl
namespace Go.Proofs.Ytnhfbeehoifddaa
/- THE CELL 'sum', in the pinned program and in every row, IS THE sha256 OF THE DUMP (.gsa) THAT YtnhfbeehoifddaaProg.lean LOADS. Nothing in Lean hashes anything: it is a label: what it is worth is what the hold of that sum in a sandbox is worth. -/
noncomputable def Try.pinned : Pinned := { name := "ytnhfbeehoifddaa", sum := "f120a67ac8c6abeb1e657727f32322017f51fb98f9a0aac6ecdf4e9764b97ba6", checked := Try.checked }
namespace Rows
def none {H : Type} : Left H := { results := [], args := [] }

/-- 'castellanlaw08.MemDoes': WHATEVER THE INPUT: true; the input reads as it did. -/
def memDoesSpec : ChangeSpec := { name := "memDoes", fn := fun _ => fun
  | [d1, d2, d3] => { results := [.lit (.bool true)], args := [d1, d2, d3] }
  | _ => none }
def memDoesRow : OpenClaim := { program := "ytnhfbeehoifddaa", sum := "f120a67ac8c6abeb1e657727f32322017f51fb98f9a0aac6ecdf4e9764b97ba6", func := "castellan/castellanlaw08.MemDoes", spec := "memDoes", unfollowed := true, recurses := true, apart := false }
def MemDoesSaid : Prop := memDoesRow.holds Try.pinned (OpenSpec.ofChange memDoesSpec)

/-- ITS FALSE NEIGHBOUR: 'it returns false'. Refute it at one input. -/
def memDoesWrong : ChangeSpec := { name := "memDoes", fn := fun _ => fun
  | [d1, d2, d3] => { results := [.lit (.bool false)], args := [d1, d2, d3] }
  | _ => none }
def MemDoesWrongFalsely : Prop := memDoesRow.holds Try.pinned (OpenSpec.ofChange memDoesWrong)

/-- 'castellanlaw08.MemApart': WHATEVER THE INPUT: true; the input reads as it did. -/
def memApartSpec : ChangeSpec := { name := "memApart", fn := fun _ => fun
  | [d] => { results := [.lit (.bool true)], args := [d] }
  | _ => none }
def memApartRow : OpenClaim := { program := "ytnhfbeehoifddaa", sum := "f120a67ac8c6abeb1e657727f32322017f51fb98f9a0aac6ecdf4e9764b97ba6", func := "castellan/castellanlaw08.MemApart", spec := "memApart", unfollowed := true, recurses := true, apart := false }
def MemApartSaid : Prop := memApartRow.holds Try.pinned (OpenSpec.ofChange memApartSpec)

/-- ITS FALSE NEIGHBOUR: 'it returns false'. Refute it at one input. -/
def memApartWrong : ChangeSpec := { name := "memApart", fn := fun _ => fun
  | [d] => { results := [.lit (.bool false)], args := [d] }
  | _ => none }
def MemApartWrongFalsely : Prop := memApartRow.holds Try.pinned (OpenSpec.ofChange memApartWrong)

/-- 'castellanlaw08.MemBack': WHATEVER THE INPUT: true; the input reads as it did. -/
def memBackSpec : ChangeSpec := { name := "memBack", fn := fun _ => fun
  | [d1, d2, d3] => { results := [.lit (.bool true)], args := [d1, d2, d3] }
  | _ => none }
def memBackRow : OpenClaim := { program := "ytnhfbeehoifddaa", sum := "f120a67ac8c6abeb1e657727f32322017f51fb98f9a0aac6ecdf4e9764b97ba6", func := "castellan/castellanlaw08.MemBack", spec := "memBack", unfollowed := true, recurses := true, apart := false }
def MemBackSaid : Prop := memBackRow.holds Try.pinned (OpenSpec.ofChange memBackSpec)

/-- ITS FALSE NEIGHBOUR: 'it returns false'. Refute it at one input. -/
def memBackWrong : ChangeSpec := { name := "memBack", fn := fun _ => fun
  | [d1, d2, d3] => { results := [.lit (.bool false)], args := [d1, d2, d3] }
  | _ => none }
def MemBackWrongFalsely : Prop := memBackRow.holds Try.pinned (OpenSpec.ofChange memBackWrong)

/-- 'castellanlaw08.MemWords': WHATEVER THE INPUT: true; the input reads as it did. -/
def memWordsSpec : ChangeSpec := { name := "memWords", fn := fun _ => fun
  | [d1, d2, d3] => { results := [.lit (.bool true)], args := [d1, d2, d3] }
  | _ => none }
def memWordsRow : OpenClaim := { program := "ytnhfbeehoifddaa", sum := "f120a67ac8c6abeb1e657727f32322017f51fb98f9a0aac6ecdf4e9764b97ba6", func := "castellan/castellanlaw08.MemWords", spec := "memWords", unfollowed := true, recurses := true, apart := false }
def MemWordsSaid : Prop := memWordsRow.holds Try.pinned (OpenSpec.ofChange memWordsSpec)

/-- ITS FALSE NEIGHBOUR: 'it returns false'. Refute it at one input. -/
def memWordsWrong : ChangeSpec := { name := "memWords", fn := fun _ => fun
  | [d1, d2, d3] => { results := [.lit (.bool false)], args := [d1, d2, d3] }
  | _ => none }
def MemWordsWrongFalsely : Prop := memWordsRow.holds Try.pinned (OpenSpec.ofChange memWordsWrong)

/-- 'castellanlaw08.MemSplits': WHATEVER THE INPUT: true; the input reads as it did. -/
def memSplitsSpec : ChangeSpec := { name := "memSplits", fn := fun _ => fun
  | [d1, d2, d3] => { results := [.lit (.bool true)], args := [d1, d2, d3] }
  | _ => none }
def memSplitsRow : OpenClaim := { program := "ytnhfbeehoifddaa", sum := "f120a67ac8c6abeb1e657727f32322017f51fb98f9a0aac6ecdf4e9764b97ba6", func := "castellan/castellanlaw08.MemSplits", spec := "memSplits", unfollowed := true, recurses := true, apart := false }
def MemSplitsSaid : Prop := memSplitsRow.holds Try.pinned (OpenSpec.ofChange memSplitsSpec)

/-- ITS FALSE NEIGHBOUR: 'it returns false'. Refute it at one input. -/
def memSplitsWrong : ChangeSpec := { name := "memSplits", fn := fun _ => fun
  | [d1, d2, d3] => { results := [.lit (.bool false)], args := [d1, d2, d3] }
  | _ => none }
def MemSplitsWrongFalsely : Prop := memSplitsRow.holds Try.pinned (OpenSpec.ofChange memSplitsWrong)

/-- 'castellanlaw08.MemRights': WHATEVER THE INPUT: true; the input reads as it did. -/
def memRightsSpec : ChangeSpec := { name := "memRights", fn := fun _ => fun
  | [d1, d2, d3] => { results := [.lit (.bool true)], args := [d1, d2, d3] }
  | _ => none }
def memRightsRow : OpenClaim := { program := "ytnhfbeehoifddaa", sum := "f120a67ac8c6abeb1e657727f32322017f51fb98f9a0aac6ecdf4e9764b97ba6", func := "castellan/castellanlaw08.MemRights", spec := "memRights", unfollowed := true, recurses := true, apart := false }
def MemRightsSaid : Prop := memRightsRow.holds Try.pinned (OpenSpec.ofChange memRightsSpec)

/-- ITS FALSE NEIGHBOUR: 'it returns false'. Refute it at one input. -/
def memRightsWrong : ChangeSpec := { name := "memRights", fn := fun _ => fun
  | [d1, d2, d3] => { results := [.lit (.bool false)], args := [d1, d2, d3] }
  | _ => none }
def MemRightsWrongFalsely : Prop := memRightsRow.holds Try.pinned (OpenSpec.ofChange memRightsWrong)

/-- 'castellanlaw08.MemLays': WHATEVER THE INPUT: true; the input reads as it did. -/
def memLaysSpec : ChangeSpec := { name := "memLays", fn := fun _ => fun
  | [d1, d2, d3] => { results := [.lit (.bool true)], args := [d1, d2, d3] }
  | _ => none }
def memLaysRow : OpenClaim := { program := "ytnhfbeehoifddaa", sum := "f120a67ac8c6abeb1e657727f32322017f51fb98f9a0aac6ecdf4e9764b97ba6", func := "castellan/castellanlaw08.MemLays", spec := "memLays", unfollowed := true, recurses := true, apart := false }
def MemLaysSaid : Prop := memLaysRow.holds Try.pinned (OpenSpec.ofChange memLaysSpec)

/-- ITS FALSE NEIGHBOUR: 'it returns false'. Refute it at one input. -/
def memLaysWrong : ChangeSpec := { name := "memLays", fn := fun _ => fun
  | [d1, d2, d3] => { results := [.lit (.bool false)], args := [d1, d2, d3] }
  | _ => none }
def MemLaysWrongFalsely : Prop := memLaysRow.holds Try.pinned (OpenSpec.ofChange memLaysWrong)

/- THE SECOND FORM. 'bulk': how many values and letters a reading holds, each counted each time it is reached (what is shared counts as often as it is met; a slice's spare places count too). A statement '..UptoSaid' is the law's where the arguments, and the package variables that the reading takes, are together of bulk at most 1048576: NARROWER than '..Said'. Prove '..Said' where nothing that the law and all that it calls make is longer than what came in: it says more and counts as full. Else prove '..UptoSaid'. A law counts once. -/
mutual
def uptoBulk {H : Type} : DataW H → Nat
  | .lit (.string bytes) => bytes.length + 1
  | .lit _ => 1
  | .nil => 1
  | .ptr d => uptoBulk d + 1
  | .slice elems spare => uptoBulkAll elems + uptoBulkAll spare + 1
  | .agg parts => uptoBulkAll parts + 1
  | .iface _ d => uptoBulk d + 1
  | .map entries => uptoBulkEntries entries + 1
  | .held _ => 1
def uptoBulkAll {H : Type} : List (DataW H) → Nat
  | [] => 0
  | d :: r => uptoBulk d + uptoBulkAll r
def uptoBulkEntries {H : Type} : List (Lit × DataW H) → Nat
  | [] => 0
  | x :: r => uptoBulkEntry x + uptoBulkEntries r
def uptoBulkEntry {H : Type} : Lit × DataW H → Nat
  | (.string bytes, d) => bytes.length + uptoBulk d + 1
  | (_, d) => uptoBulk d + 1
 end
def uptoSmall : (H : Type) → List (DataW H) → Bool := fun _ ds => decide (uptoBulkAll ds ≤ 1048576)
def OpenSpec.upto (s : _root_.Go.ChangeSpec) : _root_.Go.OpenSpec := { _root_.Go.OpenSpec.ofChange s with cond := some uptoSmall }

/-- 'castellanlaw08.MemDoes', WHERE WHAT IT READS IS OF BULK AT MOST 1048576: true; the input reads as it did. -/
def memDoesUptoRow : OpenClaim := { program := "ytnhfbeehoifddaa", sum := "f120a67ac8c6abeb1e657727f32322017f51fb98f9a0aac6ecdf4e9764b97ba6", func := "castellan/castellanlaw08.MemDoes", spec := "memDoes", unfollowed := true, recurses := true, apart := false, narrowed := true }
def MemDoesUptoSaid : Prop := memDoesUptoRow.holds Try.pinned (OpenSpec.upto memDoesSpec)

/-- 'castellanlaw08.MemApart', WHERE WHAT IT READS IS OF BULK AT MOST 1048576: true; the input reads as it did. -/
def memApartUptoRow : OpenClaim := { program := "ytnhfbeehoifddaa", sum := "f120a67ac8c6abeb1e657727f32322017f51fb98f9a0aac6ecdf4e9764b97ba6", func := "castellan/castellanlaw08.MemApart", spec := "memApart", unfollowed := true, recurses := true, apart := false, narrowed := true }
def MemApartUptoSaid : Prop := memApartUptoRow.holds Try.pinned (OpenSpec.upto memApartSpec)

/-- 'castellanlaw08.MemBack', WHERE WHAT IT READS IS OF BULK AT MOST 1048576: true; the input reads as it did. -/
def memBackUptoRow : OpenClaim := { program := "ytnhfbeehoifddaa", sum := "f120a67ac8c6abeb1e657727f32322017f51fb98f9a0aac6ecdf4e9764b97ba6", func := "castellan/castellanlaw08.MemBack", spec := "memBack", unfollowed := true, recurses := true, apart := false, narrowed := true }
def MemBackUptoSaid : Prop := memBackUptoRow.holds Try.pinned (OpenSpec.upto memBackSpec)

/-- 'castellanlaw08.MemWords', WHERE WHAT IT READS IS OF BULK AT MOST 1048576: true; the input reads as it did. -/
def memWordsUptoRow : OpenClaim := { program := "ytnhfbeehoifddaa", sum := "f120a67ac8c6abeb1e657727f32322017f51fb98f9a0aac6ecdf4e9764b97ba6", func := "castellan/castellanlaw08.MemWords", spec := "memWords", unfollowed := true, recurses := true, apart := false, narrowed := true }
def MemWordsUptoSaid : Prop := memWordsUptoRow.holds Try.pinned (OpenSpec.upto memWordsSpec)

/-- 'castellanlaw08.MemSplits', WHERE WHAT IT READS IS OF BULK AT MOST 1048576: true; the input reads as it did. -/
def memSplitsUptoRow : OpenClaim := { program := "ytnhfbeehoifddaa", sum := "f120a67ac8c6abeb1e657727f32322017f51fb98f9a0aac6ecdf4e9764b97ba6", func := "castellan/castellanlaw08.MemSplits", spec := "memSplits", unfollowed := true, recurses := true, apart := false, narrowed := true }
def MemSplitsUptoSaid : Prop := memSplitsUptoRow.holds Try.pinned (OpenSpec.upto memSplitsSpec)

/-- 'castellanlaw08.MemRights', WHERE WHAT IT READS IS OF BULK AT MOST 1048576: true; the input reads as it did. -/
def memRightsUptoRow : OpenClaim := { program := "ytnhfbeehoifddaa", sum := "f120a67ac8c6abeb1e657727f32322017f51fb98f9a0aac6ecdf4e9764b97ba6", func := "castellan/castellanlaw08.MemRights", spec := "memRights", unfollowed := true, recurses := true, apart := false, narrowed := true }
def MemRightsUptoSaid : Prop := memRightsUptoRow.holds Try.pinned (OpenSpec.upto memRightsSpec)

/-- 'castellanlaw08.MemLays', WHERE WHAT IT READS IS OF BULK AT MOST 1048576: true; the input reads as it did. -/
def memLaysUptoRow : OpenClaim := { program := "ytnhfbeehoifddaa", sum := "f120a67ac8c6abeb1e657727f32322017f51fb98f9a0aac6ecdf4e9764b97ba6", func := "castellan/castellanlaw08.MemLays", spec := "memLays", unfollowed := true, recurses := true, apart := false, narrowed := true }
def MemLaysUptoSaid : Prop := memLaysUptoRow.holds Try.pinned (OpenSpec.upto memLaysSpec)

end Rows
end Go.Proofs.Ytnhfbeehoifddaa
