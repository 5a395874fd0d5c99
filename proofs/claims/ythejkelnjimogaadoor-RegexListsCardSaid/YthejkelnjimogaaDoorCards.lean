/-
  DERIVED. GIVEN WITH THE SEED: THE CARDS: each row of YthejkelnjimogaaDoorRows.lean that lists a variable, with what it lists TIED to the program's text (the seventh form; the later family's looks); each row that meets fmt, with fmt's text TOLD by the authors' own Lean function (tested against real Go, not proved from fmt's source: count such statements apart). THE CARD IS WHAT COUNTS. Prove the row's statement (the work); the ties are given (YthejkelnjimogaaDoorTie.lean); close each card by the builder's one call (the guide's Derived/Test/ToyasCard.lean, 'card_holds'). Laid BY PROGRAM, IN A SANDBOX (cutbox-door.mjs). By AI agents, Wed Nov 11 2026. No macro, syntax, notation, axiom, sorry.
-/
import Derived.Test.YthejkelnjimogaaDoorRows
import GoSem.ClaimSeven
namespace Go.Proofs.YthejkelnjimogaaDoor
namespace Rows

/-- THE TIED CARD OF 'castellanlaw05.RegexChecks'. -/
def regexChecksCard : Claim7 := { stood := { row := regexChecksRow, standIns := [], harness := (true, "8930cf8b7defb7d31703e9b0b78e1770680bf3a3877fb727f0860fd926ff2c71"), looks := false }, kinds := [], alts := [], laidByText := true, laidKinds := [.data, .data, .data], laidTests := true, laidLooks := .later }
def RegexChecksCardSaid : Prop := Claim7.holds Tryd.pinned (.plain (OpenSpec.ofChange regexChecksSpec)) regexChecksCard

/-- THE TIED CARD OF 'castellanlaw05.RegexReads'. -/
def regexReadsCard : Claim7 := { stood := { row := regexReadsRow, standIns := [], harness := (true, "8930cf8b7defb7d31703e9b0b78e1770680bf3a3877fb727f0860fd926ff2c71"), looks := false }, kinds := [], alts := [], laidByText := true, laidKinds := [.data, .data, .data], laidTests := true, laidLooks := .later }
def RegexReadsCardSaid : Prop := Claim7.holds Tryd.pinned (.plain (OpenSpec.ofChange regexReadsSpec)) regexReadsCard

/-- THE TIED CARD OF 'castellanlaw05.RegexBack'. -/
def regexBackCard : Claim7 := { stood := { row := regexBackRow, standIns := [], harness := (true, "8930cf8b7defb7d31703e9b0b78e1770680bf3a3877fb727f0860fd926ff2c71"), looks := false }, kinds := [], alts := [], laidByText := true, laidKinds := [.data, .data, .data], laidTests := true, laidLooks := .later }
def RegexBackCardSaid : Prop := Claim7.holds Tryd.pinned (.plain (OpenSpec.ofChange regexBackSpec)) regexBackCard

/-- THE TIED CARD OF 'castellanlaw05.RegexSizes'. -/
def regexSizesCard : Claim7 := { stood := { row := regexSizesRow, standIns := [], harness := (true, "8930cf8b7defb7d31703e9b0b78e1770680bf3a3877fb727f0860fd926ff2c71"), looks := false }, kinds := [], alts := [], laidByText := true, laidKinds := [.data, .data, .data], laidTests := true, laidLooks := .later }
def RegexSizesCardSaid : Prop := Claim7.holds Tryd.pinned (.plain (OpenSpec.ofChange regexSizesSpec)) regexSizesCard

/-- THE TIED CARD OF 'castellanlaw05.RegexBuilds'. -/
def regexBuildsCard : Claim7 := { stood := { row := regexBuildsRow, standIns := [], harness := (true, "8930cf8b7defb7d31703e9b0b78e1770680bf3a3877fb727f0860fd926ff2c71"), looks := false }, kinds := [], alts := [], laidByText := true, laidKinds := [.data, .data, .data], laidTests := true, laidLooks := .later }
def RegexBuildsCardSaid : Prop := Claim7.holds Tryd.pinned (.plain (OpenSpec.ofChange regexBuildsSpec)) regexBuildsCard

/-- THE TIED CARD OF 'castellanlaw05.RegexLists'. -/
def regexListsCard : Claim7 := { stood := { row := regexListsRow, standIns := [], harness := (true, "8930cf8b7defb7d31703e9b0b78e1770680bf3a3877fb727f0860fd926ff2c71"), looks := false }, kinds := [], alts := [], laidByText := true, laidKinds := [.data, .data, .data], laidTests := true, laidLooks := .later }
def RegexListsCardSaid : Prop := Claim7.holds Tryd.pinned (.plain (OpenSpec.ofChange regexListsSpec)) regexListsCard

/-- THE SECOND FORM's CARD OF 'castellanlaw05.RegexChecks'. -/
def regexChecksUptoCard : Claim7 := { stood := { row := regexChecksUptoRow, standIns := [], harness := (true, "8930cf8b7defb7d31703e9b0b78e1770680bf3a3877fb727f0860fd926ff2c71"), looks := false }, kinds := [], alts := [], laidByText := true, laidKinds := [.data, .data, .data], laidTests := true, laidLooks := .later }
def RegexChecksUptoCardSaid : Prop := Claim7.holds Tryd.pinned (.plain (OpenSpec.upto regexChecksSpec)) regexChecksUptoCard

/-- THE SECOND FORM's CARD OF 'castellanlaw05.RegexReads'. -/
def regexReadsUptoCard : Claim7 := { stood := { row := regexReadsUptoRow, standIns := [], harness := (true, "8930cf8b7defb7d31703e9b0b78e1770680bf3a3877fb727f0860fd926ff2c71"), looks := false }, kinds := [], alts := [], laidByText := true, laidKinds := [.data, .data, .data], laidTests := true, laidLooks := .later }
def RegexReadsUptoCardSaid : Prop := Claim7.holds Tryd.pinned (.plain (OpenSpec.upto regexReadsSpec)) regexReadsUptoCard

/-- THE SECOND FORM's CARD OF 'castellanlaw05.RegexBack'. -/
def regexBackUptoCard : Claim7 := { stood := { row := regexBackUptoRow, standIns := [], harness := (true, "8930cf8b7defb7d31703e9b0b78e1770680bf3a3877fb727f0860fd926ff2c71"), looks := false }, kinds := [], alts := [], laidByText := true, laidKinds := [.data, .data, .data], laidTests := true, laidLooks := .later }
def RegexBackUptoCardSaid : Prop := Claim7.holds Tryd.pinned (.plain (OpenSpec.upto regexBackSpec)) regexBackUptoCard

/-- THE SECOND FORM's CARD OF 'castellanlaw05.RegexSizes'. -/
def regexSizesUptoCard : Claim7 := { stood := { row := regexSizesUptoRow, standIns := [], harness := (true, "8930cf8b7defb7d31703e9b0b78e1770680bf3a3877fb727f0860fd926ff2c71"), looks := false }, kinds := [], alts := [], laidByText := true, laidKinds := [.data, .data, .data], laidTests := true, laidLooks := .later }
def RegexSizesUptoCardSaid : Prop := Claim7.holds Tryd.pinned (.plain (OpenSpec.upto regexSizesSpec)) regexSizesUptoCard

/-- THE SECOND FORM's CARD OF 'castellanlaw05.RegexBuilds'. -/
def regexBuildsUptoCard : Claim7 := { stood := { row := regexBuildsUptoRow, standIns := [], harness := (true, "8930cf8b7defb7d31703e9b0b78e1770680bf3a3877fb727f0860fd926ff2c71"), looks := false }, kinds := [], alts := [], laidByText := true, laidKinds := [.data, .data, .data], laidTests := true, laidLooks := .later }
def RegexBuildsUptoCardSaid : Prop := Claim7.holds Tryd.pinned (.plain (OpenSpec.upto regexBuildsSpec)) regexBuildsUptoCard

/-- THE SECOND FORM's CARD OF 'castellanlaw05.RegexLists'. -/
def regexListsUptoCard : Claim7 := { stood := { row := regexListsUptoRow, standIns := [], harness := (true, "8930cf8b7defb7d31703e9b0b78e1770680bf3a3877fb727f0860fd926ff2c71"), looks := false }, kinds := [], alts := [], laidByText := true, laidKinds := [.data, .data, .data], laidTests := true, laidLooks := .later }
def RegexListsUptoCardSaid : Prop := Claim7.holds Tryd.pinned (.plain (OpenSpec.upto regexListsSpec)) regexListsUptoCard
end Rows
end Go.Proofs.YthejkelnjimogaaDoor
