/-
  No cell of these rows narrows 'for every input' (looked for: loops, veiled, ifaces, maps, wideKeys, modest, calm, conditions, laid).
  DERIVED. THE GIVEN ROWS OF THIS SEAT. 7 by the template 'for every input the law returns true; each argument reads behind the call as it read before'; 0 by the template 'total and deterministic' (their statements: YtnecbbflcpngcaaTotals.lean).
  GIVEN WITH THE SEED: the statements are not yours to turn. If you find one false, say at which input.
  Laid BY PROGRAM, IN A SANDBOX (cutbox-rows.mjs): the forced cells as the released guide's own fill.sh prints them over the translation 02639ad9249d15a3… (all of the seat's roots in one cut). By AI agents, Wed Nov 11 2026. No macro, syntax, notation, axiom, sorry.
-/
import Derived.Test.YtnecbbflcpngcaaChecked
import GoSem.Claim
import GoSem.ClaimJoined
import GoSem.ClaimMapViews
import Derived.JoinedTies
import Derived.KernelRfl
namespace Go.Proofs.Ytnecbbflcpngcaa
/- THE CELL 'sum', in the pinned program and in every row, IS THE sha256 OF THE DUMP (.gsa) THAT YtnecbbflcpngcaaProg.lean LOADS. Nothing in Lean hashes anything: it is a label: what it is worth is what the hold of that sum in a sandbox is worth. -/
noncomputable def Try.pinned : Pinned := { name := "ytnecbbflcpngcaa", sum := "02639ad9249d15a38292919113009ee1ef732e6cfa044f7cbc6476d595a5ae90", checked := Try.checked }
namespace Rows
def none {H : Type} : Left H := { results := [], args := [] }

/-- 'castellanlaw15.BlockBytes': WHATEVER THE INPUT: true; the input reads as it did. -/
def blockBytesSpec : ChangeSpec := { name := "blockBytes", fn := fun _ => fun
  | [d1, d2, d3] => { results := [.lit (.bool true)], args := [d1, d2, d3] }
  | _ => none }
def blockBytesRow : OpenClaim := { program := "ytnecbbflcpngcaa", sum := "02639ad9249d15a38292919113009ee1ef732e6cfa044f7cbc6476d595a5ae90", func := "castellan/castellanlaw15.BlockBytes", spec := "blockBytes", unfollowed := true, recurses := true, apart := false }
def BlockBytesSaid : Prop := blockBytesRow.holds Try.pinned (OpenSpec.ofChange blockBytesSpec)

/-- ITS FALSE NEIGHBOUR: 'it returns false'. Refute it at one input. -/
def blockBytesWrong : ChangeSpec := { name := "blockBytes", fn := fun _ => fun
  | [d1, d2, d3] => { results := [.lit (.bool false)], args := [d1, d2, d3] }
  | _ => none }
def BlockBytesWrongFalsely : Prop := blockBytesRow.holds Try.pinned (OpenSpec.ofChange blockBytesWrong)

/-- 'castellanlaw15.BlockBack': WHATEVER THE INPUT: true; the input reads as it did. -/
def blockBackSpec : ChangeSpec := { name := "blockBack", fn := fun _ => fun
  | [d1, d2, d3] => { results := [.lit (.bool true)], args := [d1, d2, d3] }
  | _ => none }
def blockBackRow : OpenClaim := { program := "ytnecbbflcpngcaa", sum := "02639ad9249d15a38292919113009ee1ef732e6cfa044f7cbc6476d595a5ae90", func := "castellan/castellanlaw15.BlockBack", spec := "blockBack", unfollowed := true, recurses := true, apart := false }
def BlockBackSaid : Prop := blockBackRow.holds Try.pinned (OpenSpec.ofChange blockBackSpec)

/-- ITS FALSE NEIGHBOUR: 'it returns false'. Refute it at one input. -/
def blockBackWrong : ChangeSpec := { name := "blockBack", fn := fun _ => fun
  | [d1, d2, d3] => { results := [.lit (.bool false)], args := [d1, d2, d3] }
  | _ => none }
def BlockBackWrongFalsely : Prop := blockBackRow.holds Try.pinned (OpenSpec.ofChange blockBackWrong)

/-- 'castellanlaw15.BlockDoes': WHATEVER THE INPUT: true; the input reads as it did. -/
def blockDoesSpec : ChangeSpec := { name := "blockDoes", fn := fun _ => fun
  | [d1, d2, d3] => { results := [.lit (.bool true)], args := [d1, d2, d3] }
  | _ => none }
def blockDoesRow : OpenClaim := { program := "ytnecbbflcpngcaa", sum := "02639ad9249d15a38292919113009ee1ef732e6cfa044f7cbc6476d595a5ae90", func := "castellan/castellanlaw15.BlockDoes", spec := "blockDoes", inPlace := ["maps.clone"], unfollowed := true, recurses := true, apart := false }
def BlockDoesSaid : Prop := blockDoesRow.holds Try.pinned (OpenSpec.ofChange blockDoesSpec)

/-- ITS FALSE NEIGHBOUR: 'it returns false'. Refute it at one input. -/
def blockDoesWrong : ChangeSpec := { name := "blockDoes", fn := fun _ => fun
  | [d1, d2, d3] => { results := [.lit (.bool false)], args := [d1, d2, d3] }
  | _ => none }
def BlockDoesWrongFalsely : Prop := blockDoesRow.holds Try.pinned (OpenSpec.ofChange blockDoesWrong)

/-- 'castellanlaw15.BlockStamps': WHATEVER THE INPUT: true; the input reads as it did. -/
def blockStampsSpec : ChangeSpec := { name := "blockStamps", fn := fun _ => fun
  | [d] => { results := [.lit (.bool true)], args := [d] }
  | _ => none }
def blockStampsRow : OpenClaim := { program := "ytnecbbflcpngcaa", sum := "02639ad9249d15a38292919113009ee1ef732e6cfa044f7cbc6476d595a5ae90", func := "castellan/castellanlaw15.BlockStamps", spec := "blockStamps", unfollowed := true, recurses := true, apart := false }
def BlockStampsSaid : Prop := blockStampsRow.holds Try.pinned (OpenSpec.ofChange blockStampsSpec)

/-- ITS FALSE NEIGHBOUR: 'it returns false'. Refute it at one input. -/
def blockStampsWrong : ChangeSpec := { name := "blockStamps", fn := fun _ => fun
  | [d] => { results := [.lit (.bool false)], args := [d] }
  | _ => none }
def BlockStampsWrongFalsely : Prop := blockStampsRow.holds Try.pinned (OpenSpec.ofChange blockStampsWrong)

/-- 'castellanlaw15.BlockApart': WHATEVER THE INPUT: true; the input reads as it did. -/
def blockApartSpec : ChangeSpec := { name := "blockApart", fn := fun _ => fun
  | [d1, d2, d3] => { results := [.lit (.bool true)], args := [d1, d2, d3] }
  | _ => none }
def blockApartRow : OpenClaim := { program := "ytnecbbflcpngcaa", sum := "02639ad9249d15a38292919113009ee1ef732e6cfa044f7cbc6476d595a5ae90", func := "castellan/castellanlaw15.BlockApart", spec := "blockApart", unfollowed := true, recurses := true, apart := false }
def BlockApartSaid : Prop := blockApartRow.holds Try.pinned (OpenSpec.ofChange blockApartSpec)

/-- ITS FALSE NEIGHBOUR: 'it returns false'. Refute it at one input. -/
def blockApartWrong : ChangeSpec := { name := "blockApart", fn := fun _ => fun
  | [d1, d2, d3] => { results := [.lit (.bool false)], args := [d1, d2, d3] }
  | _ => none }
def BlockApartWrongFalsely : Prop := blockApartRow.holds Try.pinned (OpenSpec.ofChange blockApartWrong)

/-- 'castellanlaw15.BlockSafe': WHATEVER THE INPUT: true; the input reads as it did. -/
def blockSafeSpec : ChangeSpec := { name := "blockSafe", fn := fun _ => fun
  | [d1, d2, d3] => { results := [.lit (.bool true)], args := [d1, d2, d3] }
  | _ => none }
def blockSafeRow : OpenClaim := { program := "ytnecbbflcpngcaa", sum := "02639ad9249d15a38292919113009ee1ef732e6cfa044f7cbc6476d595a5ae90", func := "castellan/castellanlaw15.BlockSafe", spec := "blockSafe", unfollowed := true, recurses := true, apart := false }
def BlockSafeSaid : Prop := blockSafeRow.holds Try.pinned (OpenSpec.ofChange blockSafeSpec)

/-- ITS FALSE NEIGHBOUR: 'it returns false'. Refute it at one input. -/
def blockSafeWrong : ChangeSpec := { name := "blockSafe", fn := fun _ => fun
  | [d1, d2, d3] => { results := [.lit (.bool false)], args := [d1, d2, d3] }
  | _ => none }
def BlockSafeWrongFalsely : Prop := blockSafeRow.holds Try.pinned (OpenSpec.ofChange blockSafeWrong)

/-- 'castellanlaw15.BlockCaches': WHATEVER THE INPUT: true; the input reads as it did. -/
def blockCachesSpec : ChangeSpec := { name := "blockCaches", fn := fun _ => fun
  | [d1, d2, d3] => { results := [.lit (.bool true)], args := [d1, d2, d3] }
  | _ => none }
def blockCachesRow : OpenClaim := { program := "ytnecbbflcpngcaa", sum := "02639ad9249d15a38292919113009ee1ef732e6cfa044f7cbc6476d595a5ae90", func := "castellan/castellanlaw15.BlockCaches", spec := "blockCaches", unfollowed := true, recurses := true, apart := false }
def BlockCachesSaid : Prop := blockCachesRow.holds Try.pinned (OpenSpec.ofChange blockCachesSpec)

/-- ITS FALSE NEIGHBOUR: 'it returns false'. Refute it at one input. -/
def blockCachesWrong : ChangeSpec := { name := "blockCaches", fn := fun _ => fun
  | [d1, d2, d3] => { results := [.lit (.bool false)], args := [d1, d2, d3] }
  | _ => none }
def BlockCachesWrongFalsely : Prop := blockCachesRow.holds Try.pinned (OpenSpec.ofChange blockCachesWrong)

/- THE SECOND FORM. 'bulk': how many values and letters a reading holds, each counted each time it is reached (what is shared counts as often as it is met; a slice's spare places count too). A statement '..UptoSaid' is the law's where the arguments, and the package variables that the reading takes, are together of bulk at most 1048576: NARROWER than '..Said'. Prove '..Said' where nothing that the law and all that it calls make is longer than what came in: it says more and counts as full. Else prove '..UptoSaid'. A law counts once. -/
mutual
def uptoBulk {H : Type} : DataW H → Nat
  | .lit (.string bytes) => bytes.length + 1
  | .lit _ => 1
  | .nil => 1
  | .ptr d => uptoBulk d + 1
  | .slice elems spare => uptoBulkAll elems + uptoBulkAll spare + 1
  | .agg parts => uptoBulkAll parts + 1
  | .iface _ d => uptoBulk d + 1
  | .map entries => uptoBulkEntries entries + 1
  | .held _ => 1
def uptoBulkAll {H : Type} : List (DataW H) → Nat
  | [] => 0
  | d :: r => uptoBulk d + uptoBulkAll r
def uptoBulkEntries {H : Type} : List (Lit × DataW H) → Nat
  | [] => 0
  | x :: r => uptoBulkEntry x + uptoBulkEntries r
def uptoBulkEntry {H : Type} : Lit × DataW H → Nat
  | (.string bytes, d) => bytes.length + uptoBulk d + 1
  | (_, d) => uptoBulk d + 1
 end
def uptoSmall : (H : Type) → List (DataW H) → Bool := fun _ ds => decide (uptoBulkAll ds ≤ 1048576)
def OpenSpec.upto (s : _root_.Go.ChangeSpec) : _root_.Go.OpenSpec := { _root_.Go.OpenSpec.ofChange s with cond := some uptoSmall }

/-- 'castellanlaw15.BlockBytes', WHERE WHAT IT READS IS OF BULK AT MOST 1048576: true; the input reads as it did. -/
def blockBytesUptoRow : OpenClaim := { program := "ytnecbbflcpngcaa", sum := "02639ad9249d15a38292919113009ee1ef732e6cfa044f7cbc6476d595a5ae90", func := "castellan/castellanlaw15.BlockBytes", spec := "blockBytes", unfollowed := true, recurses := true, apart := false, narrowed := true }
def BlockBytesUptoSaid : Prop := blockBytesUptoRow.holds Try.pinned (OpenSpec.upto blockBytesSpec)

/-- 'castellanlaw15.BlockBack', WHERE WHAT IT READS IS OF BULK AT MOST 1048576: true; the input reads as it did. -/
def blockBackUptoRow : OpenClaim := { program := "ytnecbbflcpngcaa", sum := "02639ad9249d15a38292919113009ee1ef732e6cfa044f7cbc6476d595a5ae90", func := "castellan/castellanlaw15.BlockBack", spec := "blockBack", unfollowed := true, recurses := true, apart := false, narrowed := true }
def BlockBackUptoSaid : Prop := blockBackUptoRow.holds Try.pinned (OpenSpec.upto blockBackSpec)

/-- 'castellanlaw15.BlockDoes', WHERE WHAT IT READS IS OF BULK AT MOST 1048576: true; the input reads as it did. -/
def blockDoesUptoRow : OpenClaim := { program := "ytnecbbflcpngcaa", sum := "02639ad9249d15a38292919113009ee1ef732e6cfa044f7cbc6476d595a5ae90", func := "castellan/castellanlaw15.BlockDoes", spec := "blockDoes", inPlace := ["maps.clone"], unfollowed := true, recurses := true, apart := false, narrowed := true }
def BlockDoesUptoSaid : Prop := blockDoesUptoRow.holds Try.pinned (OpenSpec.upto blockDoesSpec)

/-- 'castellanlaw15.BlockStamps', WHERE WHAT IT READS IS OF BULK AT MOST 1048576: true; the input reads as it did. -/
def blockStampsUptoRow : OpenClaim := { program := "ytnecbbflcpngcaa", sum := "02639ad9249d15a38292919113009ee1ef732e6cfa044f7cbc6476d595a5ae90", func := "castellan/castellanlaw15.BlockStamps", spec := "blockStamps", unfollowed := true, recurses := true, apart := false, narrowed := true }
def BlockStampsUptoSaid : Prop := blockStampsUptoRow.holds Try.pinned (OpenSpec.upto blockStampsSpec)

/-- 'castellanlaw15.BlockApart', WHERE WHAT IT READS IS OF BULK AT MOST 1048576: true; the input reads as it did. -/
def blockApartUptoRow : OpenClaim := { program := "ytnecbbflcpngcaa", sum := "02639ad9249d15a38292919113009ee1ef732e6cfa044f7cbc6476d595a5ae90", func := "castellan/castellanlaw15.BlockApart", spec := "blockApart", unfollowed := true, recurses := true, apart := false, narrowed := true }
def BlockApartUptoSaid : Prop := blockApartUptoRow.holds Try.pinned (OpenSpec.upto blockApartSpec)

/-- 'castellanlaw15.BlockSafe', WHERE WHAT IT READS IS OF BULK AT MOST 1048576: true; the input reads as it did. -/
def blockSafeUptoRow : OpenClaim := { program := "ytnecbbflcpngcaa", sum := "02639ad9249d15a38292919113009ee1ef732e6cfa044f7cbc6476d595a5ae90", func := "castellan/castellanlaw15.BlockSafe", spec := "blockSafe", unfollowed := true, recurses := true, apart := false, narrowed := true }
def BlockSafeUptoSaid : Prop := blockSafeUptoRow.holds Try.pinned (OpenSpec.upto blockSafeSpec)

/-- 'castellanlaw15.BlockCaches', WHERE WHAT IT READS IS OF BULK AT MOST 1048576: true; the input reads as it did. -/
def blockCachesUptoRow : OpenClaim := { program := "ytnecbbflcpngcaa", sum := "02639ad9249d15a38292919113009ee1ef732e6cfa044f7cbc6476d595a5ae90", func := "castellan/castellanlaw15.BlockCaches", spec := "blockCaches", unfollowed := true, recurses := true, apart := false, narrowed := true }
def BlockCachesUptoSaid : Prop := blockCachesUptoRow.holds Try.pinned (OpenSpec.upto blockCachesSpec)

end Rows
end Go.Proofs.Ytnecbbflcpngcaa
