/-
  No cell of these rows narrows 'for every input' (looked for: loops, veiled, ifaces, maps, wideKeys, modest, calm, conditions, laid).
  DERIVED. THE GIVEN ROWS OF THIS SEAT. 4 by the template 'for every input the law returns true; each argument reads behind the call as it read before'; 0 by the template 'total and deterministic' (their statements: YtolcdfkkdhkpfaaTotals.lean).
  GIVEN WITH THE SEED: the statements are not yours to turn. If you find one false, say at which input.
  Laid BY PROGRAM, IN A SANDBOX (cutbox-rows.mjs): the forced cells as the released guide's own fill.sh prints them over the translation 033f677c5b7a532e… (all of the seat's roots in one cut). By AI agents, Wed Nov 11 2026. No macro, syntax, notation, axiom, sorry.
-/
import Derived.Test.YtolcdfkkdhkpfaaChecked
import GoSem.Claim
import GoSem.ClaimJoined
import GoSem.ClaimMapViews
import Derived.JoinedTies
import Derived.KernelRfl
namespace Go.Proofs.Ytolcdfkkdhkpfaa
/- THE CELL 'sum', in the pinned program and in every row, IS THE sha256 OF THE DUMP (.gsa) THAT YtolcdfkkdhkpfaaProg.lean LOADS. Nothing in Lean hashes anything: it is a label: what it is worth is what the hold of that sum in a sandbox is worth. -/
noncomputable def Try.pinned : Pinned := { name := "ytolcdfkkdhkpfaa", sum := "033f677c5b7a532e97660f192722f70db53073089df604b50511f92a10e3e169", checked := Try.checked }
namespace Rows
def none {H : Type} : Left H := { results := [], args := [] }

/-- 'castellanlaw14.PortDoes': WHATEVER THE INPUT: true; the input reads as it did. -/
def portDoesSpec : ChangeSpec := { name := "portDoes", fn := fun _ => fun
  | [d1, d2] => { results := [.lit (.bool true)], args := [d1, d2] }
  | _ => none }
def portDoesRow : OpenClaim := { program := "ytolcdfkkdhkpfaa", sum := "033f677c5b7a532e97660f192722f70db53073089df604b50511f92a10e3e169", func := "castellan/castellanlaw14.PortDoes", spec := "portDoes", unfollowed := true, recurses := true, apart := false }
def PortDoesSaid : Prop := portDoesRow.holds Try.pinned (OpenSpec.ofChange portDoesSpec)

/-- ITS FALSE NEIGHBOUR: 'it returns false'. Refute it at one input. -/
def portDoesWrong : ChangeSpec := { name := "portDoes", fn := fun _ => fun
  | [d1, d2] => { results := [.lit (.bool false)], args := [d1, d2] }
  | _ => none }
def PortDoesWrongFalsely : Prop := portDoesRow.holds Try.pinned (OpenSpec.ofChange portDoesWrong)

/-- 'castellanlaw14.PortBlind': WHATEVER THE INPUT: true; the input reads as it did. -/
def portBlindSpec : ChangeSpec := { name := "portBlind", fn := fun _ => fun
  | [d1, d2, d3] => { results := [.lit (.bool true)], args := [d1, d2, d3] }
  | _ => none }
def portBlindRow : OpenClaim := { program := "ytolcdfkkdhkpfaa", sum := "033f677c5b7a532e97660f192722f70db53073089df604b50511f92a10e3e169", func := "castellan/castellanlaw14.PortBlind", spec := "portBlind", unfollowed := true, recurses := true, apart := false }
def PortBlindSaid : Prop := portBlindRow.holds Try.pinned (OpenSpec.ofChange portBlindSpec)

/-- ITS FALSE NEIGHBOUR: 'it returns false'. Refute it at one input. -/
def portBlindWrong : ChangeSpec := { name := "portBlind", fn := fun _ => fun
  | [d1, d2, d3] => { results := [.lit (.bool false)], args := [d1, d2, d3] }
  | _ => none }
def PortBlindWrongFalsely : Prop := portBlindRow.holds Try.pinned (OpenSpec.ofChange portBlindWrong)

/-- 'castellanlaw14.PortSamples': WHATEVER THE INPUT: true; the input reads as it did. -/
def portSamplesSpec : ChangeSpec := { name := "portSamples", fn := fun _ => fun
  | [d1, d2] => { results := [.lit (.bool true)], args := [d1, d2] }
  | _ => none }
def portSamplesRow : OpenClaim := { program := "ytolcdfkkdhkpfaa", sum := "033f677c5b7a532e97660f192722f70db53073089df604b50511f92a10e3e169", func := "castellan/castellanlaw14.PortSamples", spec := "portSamples", unfollowed := true, recurses := true, apart := false }
def PortSamplesSaid : Prop := portSamplesRow.holds Try.pinned (OpenSpec.ofChange portSamplesSpec)

/-- ITS FALSE NEIGHBOUR: 'it returns false'. Refute it at one input. -/
def portSamplesWrong : ChangeSpec := { name := "portSamples", fn := fun _ => fun
  | [d1, d2] => { results := [.lit (.bool false)], args := [d1, d2] }
  | _ => none }
def PortSamplesWrongFalsely : Prop := portSamplesRow.holds Try.pinned (OpenSpec.ofChange portSamplesWrong)

/-- 'castellanlaw14.PortKeeps': WHATEVER THE INPUT: true; the input reads as it did. -/
def portKeepsSpec : ChangeSpec := { name := "portKeeps", fn := fun _ => fun
  | [d1, d2] => { results := [.lit (.bool true)], args := [d1, d2] }
  | _ => none }
def portKeepsRow : OpenClaim := { program := "ytolcdfkkdhkpfaa", sum := "033f677c5b7a532e97660f192722f70db53073089df604b50511f92a10e3e169", func := "castellan/castellanlaw14.PortKeeps", spec := "portKeeps", unfollowed := true, recurses := true, apart := false }
def PortKeepsSaid : Prop := portKeepsRow.holds Try.pinned (OpenSpec.ofChange portKeepsSpec)

/-- ITS FALSE NEIGHBOUR: 'it returns false'. Refute it at one input. -/
def portKeepsWrong : ChangeSpec := { name := "portKeeps", fn := fun _ => fun
  | [d1, d2] => { results := [.lit (.bool false)], args := [d1, d2] }
  | _ => none }
def PortKeepsWrongFalsely : Prop := portKeepsRow.holds Try.pinned (OpenSpec.ofChange portKeepsWrong)

/- THE SECOND FORM. 'bulk': how many values and letters a reading holds, each counted each time it is reached (what is shared counts as often as it is met; a slice's spare places count too). A statement '..UptoSaid' is the law's where the arguments, and the package variables that the reading takes, are together of bulk at most 1048576: NARROWER than '..Said'. Prove '..Said' where nothing that the law and all that it calls make is longer than what came in: it says more and counts as full. Else prove '..UptoSaid'. A law counts once. -/
mutual
def uptoBulk {H : Type} : DataW H → Nat
  | .lit (.string bytes) => bytes.length + 1
  | .lit _ => 1
  | .nil => 1
  | .ptr d => uptoBulk d + 1
  | .slice elems spare => uptoBulkAll elems + uptoBulkAll spare + 1
  | .agg parts => uptoBulkAll parts + 1
  | .iface _ d => uptoBulk d + 1
  | .map entries => uptoBulkEntries entries + 1
  | .held _ => 1
def uptoBulkAll {H : Type} : List (DataW H) → Nat
  | [] => 0
  | d :: r => uptoBulk d + uptoBulkAll r
def uptoBulkEntries {H : Type} : List (Lit × DataW H) → Nat
  | [] => 0
  | x :: r => uptoBulkEntry x + uptoBulkEntries r
def uptoBulkEntry {H : Type} : Lit × DataW H → Nat
  | (.string bytes, d) => bytes.length + uptoBulk d + 1
  | (_, d) => uptoBulk d + 1
 end
def uptoSmall : (H : Type) → List (DataW H) → Bool := fun _ ds => decide (uptoBulkAll ds ≤ 1048576)
def OpenSpec.upto (s : _root_.Go.ChangeSpec) : _root_.Go.OpenSpec := { _root_.Go.OpenSpec.ofChange s with cond := some uptoSmall }

/-- 'castellanlaw14.PortDoes', WHERE WHAT IT READS IS OF BULK AT MOST 1048576: true; the input reads as it did. -/
def portDoesUptoRow : OpenClaim := { program := "ytolcdfkkdhkpfaa", sum := "033f677c5b7a532e97660f192722f70db53073089df604b50511f92a10e3e169", func := "castellan/castellanlaw14.PortDoes", spec := "portDoes", unfollowed := true, recurses := true, apart := false, narrowed := true }
def PortDoesUptoSaid : Prop := portDoesUptoRow.holds Try.pinned (OpenSpec.upto portDoesSpec)

/-- 'castellanlaw14.PortBlind', WHERE WHAT IT READS IS OF BULK AT MOST 1048576: true; the input reads as it did. -/
def portBlindUptoRow : OpenClaim := { program := "ytolcdfkkdhkpfaa", sum := "033f677c5b7a532e97660f192722f70db53073089df604b50511f92a10e3e169", func := "castellan/castellanlaw14.PortBlind", spec := "portBlind", unfollowed := true, recurses := true, apart := false, narrowed := true }
def PortBlindUptoSaid : Prop := portBlindUptoRow.holds Try.pinned (OpenSpec.upto portBlindSpec)

/-- 'castellanlaw14.PortSamples', WHERE WHAT IT READS IS OF BULK AT MOST 1048576: true; the input reads as it did. -/
def portSamplesUptoRow : OpenClaim := { program := "ytolcdfkkdhkpfaa", sum := "033f677c5b7a532e97660f192722f70db53073089df604b50511f92a10e3e169", func := "castellan/castellanlaw14.PortSamples", spec := "portSamples", unfollowed := true, recurses := true, apart := false, narrowed := true }
def PortSamplesUptoSaid : Prop := portSamplesUptoRow.holds Try.pinned (OpenSpec.upto portSamplesSpec)

/-- 'castellanlaw14.PortKeeps', WHERE WHAT IT READS IS OF BULK AT MOST 1048576: true; the input reads as it did. -/
def portKeepsUptoRow : OpenClaim := { program := "ytolcdfkkdhkpfaa", sum := "033f677c5b7a532e97660f192722f70db53073089df604b50511f92a10e3e169", func := "castellan/castellanlaw14.PortKeeps", spec := "portKeeps", unfollowed := true, recurses := true, apart := false, narrowed := true }
def PortKeepsUptoSaid : Prop := portKeepsUptoRow.holds Try.pinned (OpenSpec.upto portKeepsSpec)

end Rows
end Go.Proofs.Ytolcdfkkdhkpfaa
