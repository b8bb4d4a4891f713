/-
  DERIVED. GIVEN WITH THE SEED: THE CARDS: each row of YtonjphollmdicaaGreatDoorRows.lean that lists a variable, with what it lists TIED to the program's text (the seventh form; the later family's looks); each row that meets fmt, with fmt's text TOLD by the authors' own Lean function (tested against real Go, not proved from fmt's source: count such statements apart). THE CARD IS WHAT COUNTS. Prove the row's statement (the work); the ties are given (YtonjphollmdicaaGreatDoorTie.lean); close each card by the builder's one call (the guide's Derived/Test/ToyasCard.lean, 'card_holds'). Laid BY PROGRAM, IN A SANDBOX (cutbox-door.mjs). By AI agents, Wed Nov 11 2026. No macro, syntax, notation, axiom, sorry.
-/
import Derived.Test.YtonjphollmdicaaGreatDoorRows
import GoSem.ClaimSeven
namespace Go.Proofs.YtonjphollmdicaaGreatDoor
namespace Rows

/-- THE TIED CARD OF 'salvagelaw.Looks'. -/
def looksCard : Claim7 := { stood := { row := looksRow, standIns := [], harness := (true, "26e3169bb988e1b2be8dac5e95962bd7eea590a3994476620cb7855260052084"), looks := false }, kinds := [], alts := [], laidByText := true, laidKinds := [.funcs], laidTests := true, laidLooks := .later }
def LooksCardSaid : Prop := Claim7.holds Tryz.pinned (.plain (OpenSpec.ofChange looksSpec)) looksCard

/-- THE TIED CARD OF 'salvagelaw.Repairs'. -/
def repairsCard : Claim7 := { stood := { row := repairsRow, standIns := [], harness := (true, "26e3169bb988e1b2be8dac5e95962bd7eea590a3994476620cb7855260052084"), looks := false }, kinds := [], alts := [], laidByText := true, laidKinds := [.funcs], laidTests := true, laidLooks := .later }
def RepairsCardSaid : Prop := Claim7.holds Tryz.pinned (.plain (OpenSpec.ofChange repairsSpec)) repairsCard

/-- THE TIED CARD OF 'salvagekeep.Intact'. -/
def intactCard : Claim7 := { stood := { row := intactRow, standIns := [], harness := (true, "26e3169bb988e1b2be8dac5e95962bd7eea590a3994476620cb7855260052084"), looks := false }, kinds := [], alts := [], laidByText := true, laidKinds := [.funcs], laidTests := true, laidLooks := .later }
def IntactCardSaid : Prop := Claim7.holds Tryz.pinned (.plain (OpenSpec.ofChange intactSpec)) intactCard

/-- THE TIED CARD OF 'salvagekeep.Restored'. -/
def restoredCard : Claim7 := { stood := { row := restoredRow, standIns := [], harness := (true, "26e3169bb988e1b2be8dac5e95962bd7eea590a3994476620cb7855260052084"), looks := false }, kinds := [], alts := [], laidByText := true, laidKinds := [.funcs], laidTests := true, laidLooks := .later }
def RestoredCardSaid : Prop := Claim7.holds Tryz.pinned (.plain (OpenSpec.ofChange restoredSpec)) restoredCard

/-- THE TIED CARD OF 'salvagekeep.Doubled'. -/
def doubledCard : Claim7 := { stood := { row := doubledRow, standIns := [], harness := (true, "26e3169bb988e1b2be8dac5e95962bd7eea590a3994476620cb7855260052084"), looks := false }, kinds := [], alts := [], laidByText := true, laidKinds := [.funcs], laidTests := true, laidLooks := .later }
def DoubledCardSaid : Prop := Claim7.holds Tryz.pinned (.plain (OpenSpec.ofChange doubledSpec)) doubledCard

/-- THE TIED CARD OF 'salvagelaw.All'. -/
def allCard : Claim7 := { stood := { row := allRow, standIns := [], harness := (true, "26e3169bb988e1b2be8dac5e95962bd7eea590a3994476620cb7855260052084"), looks := false }, kinds := [], alts := [], laidByText := true, laidKinds := [.funcs], laidTests := true, laidLooks := .later }
def AllCardSaid : Prop := Claim7.holds Tryz.pinned (.plain (OpenSpec.ofChange allSpec)) allCard

/-- THE SECOND FORM's CARD OF 'salvagelaw.Looks'. -/
def looksUptoCard : Claim7 := { stood := { row := looksUptoRow, standIns := [], harness := (true, "26e3169bb988e1b2be8dac5e95962bd7eea590a3994476620cb7855260052084"), looks := false }, kinds := [], alts := [], laidByText := true, laidKinds := [.funcs], laidTests := true, laidLooks := .later }
def LooksUptoCardSaid : Prop := Claim7.holds Tryz.pinned (.plain (OpenSpec.upto looksSpec)) looksUptoCard

/-- THE SECOND FORM's CARD OF 'salvagelaw.Repairs'. -/
def repairsUptoCard : Claim7 := { stood := { row := repairsUptoRow, standIns := [], harness := (true, "26e3169bb988e1b2be8dac5e95962bd7eea590a3994476620cb7855260052084"), looks := false }, kinds := [], alts := [], laidByText := true, laidKinds := [.funcs], laidTests := true, laidLooks := .later }
def RepairsUptoCardSaid : Prop := Claim7.holds Tryz.pinned (.plain (OpenSpec.upto repairsSpec)) repairsUptoCard

/-- THE SECOND FORM's CARD OF 'salvagekeep.Intact'. -/
def intactUptoCard : Claim7 := { stood := { row := intactUptoRow, standIns := [], harness := (true, "26e3169bb988e1b2be8dac5e95962bd7eea590a3994476620cb7855260052084"), looks := false }, kinds := [], alts := [], laidByText := true, laidKinds := [.funcs], laidTests := true, laidLooks := .later }
def IntactUptoCardSaid : Prop := Claim7.holds Tryz.pinned (.plain (OpenSpec.upto intactSpec)) intactUptoCard

/-- THE SECOND FORM's CARD OF 'salvagekeep.Restored'. -/
def restoredUptoCard : Claim7 := { stood := { row := restoredUptoRow, standIns := [], harness := (true, "26e3169bb988e1b2be8dac5e95962bd7eea590a3994476620cb7855260052084"), looks := false }, kinds := [], alts := [], laidByText := true, laidKinds := [.funcs], laidTests := true, laidLooks := .later }
def RestoredUptoCardSaid : Prop := Claim7.holds Tryz.pinned (.plain (OpenSpec.upto restoredSpec)) restoredUptoCard

/-- THE SECOND FORM's CARD OF 'salvagekeep.Doubled'. -/
def doubledUptoCard : Claim7 := { stood := { row := doubledUptoRow, standIns := [], harness := (true, "26e3169bb988e1b2be8dac5e95962bd7eea590a3994476620cb7855260052084"), looks := false }, kinds := [], alts := [], laidByText := true, laidKinds := [.funcs], laidTests := true, laidLooks := .later }
def DoubledUptoCardSaid : Prop := Claim7.holds Tryz.pinned (.plain (OpenSpec.upto doubledSpec)) doubledUptoCard

/-- THE SECOND FORM's CARD OF 'salvagelaw.All'. -/
def allUptoCard : Claim7 := { stood := { row := allUptoRow, standIns := [], harness := (true, "26e3169bb988e1b2be8dac5e95962bd7eea590a3994476620cb7855260052084"), looks := false }, kinds := [], alts := [], laidByText := true, laidKinds := [.funcs], laidTests := true, laidLooks := .later }
def AllUptoCardSaid : Prop := Claim7.holds Tryz.pinned (.plain (OpenSpec.upto allSpec)) allUptoCard
end Rows
end Go.Proofs.YtonjphollmdicaaGreatDoor
