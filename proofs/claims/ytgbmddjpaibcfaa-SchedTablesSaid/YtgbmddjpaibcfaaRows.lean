/-
  No cell of these rows narrows 'for every input' (looked for: loops, veiled, ifaces, maps, wideKeys, modest, calm, conditions, laid).
  DERIVED. THE GIVEN ROWS OF THIS SEAT. 5 by the template 'for every input the law returns true; each argument reads behind the call as it read before'; 0 by the template 'total and deterministic' (their statements: YtgbmddjpaibcfaaTotals.lean).
  GIVEN WITH THE SEED: the statements are not yours to turn. If you find one false, say at which input.
  Laid BY PROGRAM, IN A SANDBOX (cutbox-rows.mjs): the forced cells as the released guide's own fill.sh prints them over the translation d56d03a6ed43f021… (all of the seat's roots in one cut). By AI agents, Wed Nov 11 2026. No macro, syntax, notation, axiom, sorry.
-/
import Derived.Test.YtgbmddjpaibcfaaChecked
import GoSem.Claim
import GoSem.ClaimJoined
import GoSem.ClaimMapViews
import Derived.JoinedTies
import Derived.KernelRfl
namespace Go.Proofs.Ytgbmddjpaibcfaa
/- THE CELL 'sum', in the pinned program and in every row, IS THE sha256 OF THE DUMP (.gsa) THAT YtgbmddjpaibcfaaProg.lean LOADS. Nothing in Lean hashes anything: it is a label: what it is worth is what the hold of that sum in a sandbox is worth. -/
noncomputable def Try.pinned : Pinned := { name := "ytgbmddjpaibcfaa", sum := "d56d03a6ed43f021ab31b7efb3cd5fbc04c3825f4515c456ace60771225963e8", checked := Try.checked }
namespace Rows
def none {H : Type} : Left H := { results := [], args := [] }

/-- 'castellanlaw13.SchedTells': WHATEVER THE INPUT: true; the input reads as it did. -/
def schedTellsSpec : ChangeSpec := { name := "schedTells", fn := fun _ => fun
  | [d1, d2] => { results := [.lit (.bool true)], args := [d1, d2] }
  | _ => none }
def schedTellsRow : OpenClaim := { program := "ytgbmddjpaibcfaa", sum := "d56d03a6ed43f021ab31b7efb3cd5fbc04c3825f4515c456ace60771225963e8", func := "castellan/castellanlaw13.SchedTells", spec := "schedTells", unfollowed := true, recurses := true, apart := false }
def SchedTellsSaid : Prop := schedTellsRow.holds Try.pinned (OpenSpec.ofChange schedTellsSpec)

/-- ITS FALSE NEIGHBOUR: 'it returns false'. Refute it at one input. -/
def schedTellsWrong : ChangeSpec := { name := "schedTells", fn := fun _ => fun
  | [d1, d2] => { results := [.lit (.bool false)], args := [d1, d2] }
  | _ => none }
def SchedTellsWrongFalsely : Prop := schedTellsRow.holds Try.pinned (OpenSpec.ofChange schedTellsWrong)

/-- 'castellanlaw13.SchedFair': WHATEVER THE INPUT: true; the input reads as it did. -/
def schedFairSpec : ChangeSpec := { name := "schedFair", fn := fun _ => fun
  | [d1, d2] => { results := [.lit (.bool true)], args := [d1, d2] }
  | _ => none }
def schedFairRow : OpenClaim := { program := "ytgbmddjpaibcfaa", sum := "d56d03a6ed43f021ab31b7efb3cd5fbc04c3825f4515c456ace60771225963e8", func := "castellan/castellanlaw13.SchedFair", spec := "schedFair", unfollowed := true, recurses := true, apart := false }
def SchedFairSaid : Prop := schedFairRow.holds Try.pinned (OpenSpec.ofChange schedFairSpec)

/-- ITS FALSE NEIGHBOUR: 'it returns false'. Refute it at one input. -/
def schedFairWrong : ChangeSpec := { name := "schedFair", fn := fun _ => fun
  | [d1, d2] => { results := [.lit (.bool false)], args := [d1, d2] }
  | _ => none }
def SchedFairWrongFalsely : Prop := schedFairRow.holds Try.pinned (OpenSpec.ofChange schedFairWrong)

/-- 'castellanlaw13.SchedLies': WHATEVER THE INPUT: true; the input reads as it did. -/
def schedLiesSpec : ChangeSpec := { name := "schedLies", fn := fun _ => fun
  | [d1, d2] => { results := [.lit (.bool true)], args := [d1, d2] }
  | _ => none }
def schedLiesRow : OpenClaim := { program := "ytgbmddjpaibcfaa", sum := "d56d03a6ed43f021ab31b7efb3cd5fbc04c3825f4515c456ace60771225963e8", func := "castellan/castellanlaw13.SchedLies", spec := "schedLies", unfollowed := true, recurses := true, apart := false }
def SchedLiesSaid : Prop := schedLiesRow.holds Try.pinned (OpenSpec.ofChange schedLiesSpec)

/-- ITS FALSE NEIGHBOUR: 'it returns false'. Refute it at one input. -/
def schedLiesWrong : ChangeSpec := { name := "schedLies", fn := fun _ => fun
  | [d1, d2] => { results := [.lit (.bool false)], args := [d1, d2] }
  | _ => none }
def SchedLiesWrongFalsely : Prop := schedLiesRow.holds Try.pinned (OpenSpec.ofChange schedLiesWrong)

/-- 'castellanlaw13.SchedTables': WHATEVER THE INPUT: true; the input reads as it did. -/
def schedTablesSpec : ChangeSpec := { name := "schedTables", fn := fun _ => fun
  | [d1, d2] => { results := [.lit (.bool true)], args := [d1, d2] }
  | _ => none }
def schedTablesRow : OpenClaim := { program := "ytgbmddjpaibcfaa", sum := "d56d03a6ed43f021ab31b7efb3cd5fbc04c3825f4515c456ace60771225963e8", func := "castellan/castellanlaw13.SchedTables", spec := "schedTables", unfollowed := true, recurses := true, apart := false }
def SchedTablesSaid : Prop := schedTablesRow.holds Try.pinned (OpenSpec.ofChange schedTablesSpec)

/-- ITS FALSE NEIGHBOUR: 'it returns false'. Refute it at one input. -/
def schedTablesWrong : ChangeSpec := { name := "schedTables", fn := fun _ => fun
  | [d1, d2] => { results := [.lit (.bool false)], args := [d1, d2] }
  | _ => none }
def SchedTablesWrongFalsely : Prop := schedTablesRow.holds Try.pinned (OpenSpec.ofChange schedTablesWrong)

/-- 'castellanlaw13.SchedApart': WHATEVER THE INPUT: true; the input reads as it did. -/
def schedApartSpec : ChangeSpec := { name := "schedApart", fn := fun _ => fun
  | [d1, d2, d3] => { results := [.lit (.bool true)], args := [d1, d2, d3] }
  | _ => none }
def schedApartRow : OpenClaim := { program := "ytgbmddjpaibcfaa", sum := "d56d03a6ed43f021ab31b7efb3cd5fbc04c3825f4515c456ace60771225963e8", func := "castellan/castellanlaw13.SchedApart", spec := "schedApart", unfollowed := true, recurses := true, apart := false }
def SchedApartSaid : Prop := schedApartRow.holds Try.pinned (OpenSpec.ofChange schedApartSpec)

/-- ITS FALSE NEIGHBOUR: 'it returns false'. Refute it at one input. -/
def schedApartWrong : ChangeSpec := { name := "schedApart", fn := fun _ => fun
  | [d1, d2, d3] => { results := [.lit (.bool false)], args := [d1, d2, d3] }
  | _ => none }
def SchedApartWrongFalsely : Prop := schedApartRow.holds Try.pinned (OpenSpec.ofChange schedApartWrong)

/- THE SECOND FORM. 'bulk': how many values and letters a reading holds, each counted each time it is reached (what is shared counts as often as it is met; a slice's spare places count too). A statement '..UptoSaid' is the law's where the arguments, and the package variables that the reading takes, are together of bulk at most 1048576: NARROWER than '..Said'. Prove '..Said' where nothing that the law and all that it calls make is longer than what came in: it says more and counts as full. Else prove '..UptoSaid'. A law counts once. -/
mutual
def uptoBulk {H : Type} : DataW H → Nat
  | .lit (.string bytes) => bytes.length + 1
  | .lit _ => 1
  | .nil => 1
  | .ptr d => uptoBulk d + 1
  | .slice elems spare => uptoBulkAll elems + uptoBulkAll spare + 1
  | .agg parts => uptoBulkAll parts + 1
  | .iface _ d => uptoBulk d + 1
  | .map entries => uptoBulkEntries entries + 1
  | .held _ => 1
def uptoBulkAll {H : Type} : List (DataW H) → Nat
  | [] => 0
  | d :: r => uptoBulk d + uptoBulkAll r
def uptoBulkEntries {H : Type} : List (Lit × DataW H) → Nat
  | [] => 0
  | x :: r => uptoBulkEntry x + uptoBulkEntries r
def uptoBulkEntry {H : Type} : Lit × DataW H → Nat
  | (.string bytes, d) => bytes.length + uptoBulk d + 1
  | (_, d) => uptoBulk d + 1
 end
def uptoSmall : (H : Type) → List (DataW H) → Bool := fun _ ds => decide (uptoBulkAll ds ≤ 1048576)
def OpenSpec.upto (s : _root_.Go.ChangeSpec) : _root_.Go.OpenSpec := { _root_.Go.OpenSpec.ofChange s with cond := some uptoSmall }

/-- 'castellanlaw13.SchedTells', WHERE WHAT IT READS IS OF BULK AT MOST 1048576: true; the input reads as it did. -/
def schedTellsUptoRow : OpenClaim := { program := "ytgbmddjpaibcfaa", sum := "d56d03a6ed43f021ab31b7efb3cd5fbc04c3825f4515c456ace60771225963e8", func := "castellan/castellanlaw13.SchedTells", spec := "schedTells", unfollowed := true, recurses := true, apart := false, narrowed := true }
def SchedTellsUptoSaid : Prop := schedTellsUptoRow.holds Try.pinned (OpenSpec.upto schedTellsSpec)

/-- 'castellanlaw13.SchedFair', WHERE WHAT IT READS IS OF BULK AT MOST 1048576: true; the input reads as it did. -/
def schedFairUptoRow : OpenClaim := { program := "ytgbmddjpaibcfaa", sum := "d56d03a6ed43f021ab31b7efb3cd5fbc04c3825f4515c456ace60771225963e8", func := "castellan/castellanlaw13.SchedFair", spec := "schedFair", unfollowed := true, recurses := true, apart := false, narrowed := true }
def SchedFairUptoSaid : Prop := schedFairUptoRow.holds Try.pinned (OpenSpec.upto schedFairSpec)

/-- 'castellanlaw13.SchedLies', WHERE WHAT IT READS IS OF BULK AT MOST 1048576: true; the input reads as it did. -/
def schedLiesUptoRow : OpenClaim := { program := "ytgbmddjpaibcfaa", sum := "d56d03a6ed43f021ab31b7efb3cd5fbc04c3825f4515c456ace60771225963e8", func := "castellan/castellanlaw13.SchedLies", spec := "schedLies", unfollowed := true, recurses := true, apart := false, narrowed := true }
def SchedLiesUptoSaid : Prop := schedLiesUptoRow.holds Try.pinned (OpenSpec.upto schedLiesSpec)

/-- 'castellanlaw13.SchedTables', WHERE WHAT IT READS IS OF BULK AT MOST 1048576: true; the input reads as it did. -/
def schedTablesUptoRow : OpenClaim := { program := "ytgbmddjpaibcfaa", sum := "d56d03a6ed43f021ab31b7efb3cd5fbc04c3825f4515c456ace60771225963e8", func := "castellan/castellanlaw13.SchedTables", spec := "schedTables", unfollowed := true, recurses := true, apart := false, narrowed := true }
def SchedTablesUptoSaid : Prop := schedTablesUptoRow.holds Try.pinned (OpenSpec.upto schedTablesSpec)

/-- 'castellanlaw13.SchedApart', WHERE WHAT IT READS IS OF BULK AT MOST 1048576: true; the input reads as it did. -/
def schedApartUptoRow : OpenClaim := { program := "ytgbmddjpaibcfaa", sum := "d56d03a6ed43f021ab31b7efb3cd5fbc04c3825f4515c456ace60771225963e8", func := "castellan/castellanlaw13.SchedApart", spec := "schedApart", unfollowed := true, recurses := true, apart := false, narrowed := true }
def SchedApartUptoSaid : Prop := schedApartUptoRow.holds Try.pinned (OpenSpec.upto schedApartSpec)

end Rows
end Go.Proofs.Ytgbmddjpaibcfaa
