/-
  NARROWER THAN 'FOR EVERY INPUT', by the rows' own cells (each row's printed sentence says how): Looks: laid · Repairs: laid · Intact: laid · Restored: laid · Doubled: laid · All: laid.
  DERIVED. THE GIVEN ROWS OF THIS SEAT. 6 by the template 'for every input the law returns true; each argument reads behind the call as it read before'; 0 by the template 'total and deterministic' (their statements: YtonjphollmdicaaGreatDoorTotals.lean).
  GIVEN WITH THE SEED: the statements are not yours to turn. If you find one false, say at which input.
  Laid BY PROGRAM, IN A SANDBOX (cutbox-rows.mjs): the forced cells as the released guide's own fill.sh prints them over the translation 076ffaa6ec87844e… (all of the seat's roots in one cut). By AI agents, Wed Nov 11 2026. No macro, syntax, notation, axiom, sorry.
-/
import Derived.Test.YtonjphollmdicaaGreatDoorChecked
import GoSem.Claim
import GoSem.ClaimJoined
import GoSem.ClaimMapViews
import Derived.JoinedTies
import Derived.KernelRfl
namespace Go.Proofs.YtonjphollmdicaaGreatDoor
/- THE CELL 'sum', in the pinned program and in every row, IS THE sha256 OF THE DUMP (.gsa) THAT YtonjphollmdicaaGreatDoorProg.lean LOADS. Nothing in Lean hashes anything: it is a label: what it is worth is what the hold of that sum in a sandbox is worth. -/
noncomputable def Tryz.pinned : Pinned := { name := "ytonjphollmdicaagreatdoor", sum := "076ffaa6ec87844e33a78f172a4c27b6fe3ea1bac66dcd9694c96ef43f0d91c7", checked := Tryz.checked }
namespace Rows
def none {H : Type} : Left H := { results := [], args := [] }

/- WHAT THE LISTED PACKAGE-LEVEL VARIABLES READ AS WHEN THE CALL BEGINS. Each datum BY PROGRAM (the guide's laid-datum.mjs) off the statement by which the dump's own 'gosem.cut.vars' lays the variable. In a bare row this is a premise. The card (YtonjphollmdicaaGreatDoorCards.lean) ties it to the program's text. -/
def laid_salvage_volume_kinds {H : Type} : DataW H := .iface "func table" (.agg [.agg [.lit (.int .u8 77), .iface "func" (.lit (.string [40, 42, 115, 97, 108, 118, 97, 103, 101, 47, 118, 111, 108, 117, 109, 101, 46, 83, 101, 116, 41, 46, 114, 101, 97, 100, 77, 97, 105, 110]))], .agg [.lit (.int .u8 70), .iface "func" (.lit (.string [40, 42, 115, 97, 108, 118, 97, 103, 101, 47, 118, 111, 108, 117, 109, 101, 46, 83, 101, 116, 41, 46, 114, 101, 97, 100, 70, 105, 108, 101]))], .agg [.lit (.int .u8 82), .iface "func" (.lit (.string [40, 42, 115, 97, 108, 118, 97, 103, 101, 47, 118, 111, 108, 117, 109, 101, 46, 83, 101, 116, 41, 46, 114, 101, 97, 100, 69, 120, 116, 114, 97]))]])

/-- 'salvagelaw.Looks': WHATEVER THE INPUT: true; the input reads as it did. -/
def looksSpec : ChangeSpec := { name := "looks", fn := fun _ => fun
  | [d] => { results := [.lit (.bool true)], args := [d] }
  | _ => none }
def looksRow : OpenClaim := { program := "ytonjphollmdicaagreatdoor", sum := "076ffaa6ec87844e33a78f172a4c27b6fe3ea1bac66dcd9694c96ef43f0d91c7", func := "salvage/salvagelaw.Looks", spec := "looks", inPlace := ["internal/abi.NoEscape", "internal/bytealg.MakeNoZero"], unfollowed := true, recurses := true, named := ["salvage/volume.kinds"], apart := false, laid := [("salvage/volume.kinds", laid_salvage_volume_kinds)] }
def LooksSaid : Prop := looksRow.holds Tryz.pinned (OpenSpec.ofChange looksSpec)

/-- ITS FALSE NEIGHBOUR: 'it returns false'. Refute it at one input. -/
def looksWrong : ChangeSpec := { name := "looks", fn := fun _ => fun
  | [d] => { results := [.lit (.bool false)], args := [d] }
  | _ => none }
def LooksWrongFalsely : Prop := looksRow.holds Tryz.pinned (OpenSpec.ofChange looksWrong)

/-- 'salvagelaw.Repairs': WHATEVER THE INPUT: true; the input reads as it did. -/
def repairsSpec : ChangeSpec := { name := "repairs", fn := fun _ => fun
  | [d] => { results := [.lit (.bool true)], args := [d] }
  | _ => none }
def repairsRow : OpenClaim := { program := "ytonjphollmdicaagreatdoor", sum := "076ffaa6ec87844e33a78f172a4c27b6fe3ea1bac66dcd9694c96ef43f0d91c7", func := "salvage/salvagelaw.Repairs", spec := "repairs", inPlace := ["internal/abi.NoEscape", "internal/bytealg.MakeNoZero"], unfollowed := true, recurses := true, named := ["salvage/volume.kinds"], apart := false, laid := [("salvage/volume.kinds", laid_salvage_volume_kinds)] }
def RepairsSaid : Prop := repairsRow.holds Tryz.pinned (OpenSpec.ofChange repairsSpec)

/-- ITS FALSE NEIGHBOUR: 'it returns false'. Refute it at one input. -/
def repairsWrong : ChangeSpec := { name := "repairs", fn := fun _ => fun
  | [d] => { results := [.lit (.bool false)], args := [d] }
  | _ => none }
def RepairsWrongFalsely : Prop := repairsRow.holds Tryz.pinned (OpenSpec.ofChange repairsWrong)

/-- 'salvagekeep.Intact': WHATEVER THE INPUT: true; the input reads as it did. -/
def intactSpec : ChangeSpec := { name := "intact", fn := fun _ => fun
  | [d1, d2, d3] => { results := [.lit (.bool true)], args := [d1, d2, d3] }
  | _ => none }
def intactRow : OpenClaim := { program := "ytonjphollmdicaagreatdoor", sum := "076ffaa6ec87844e33a78f172a4c27b6fe3ea1bac66dcd9694c96ef43f0d91c7", func := "salvage/salvagekeep.Intact", spec := "intact", inPlace := ["internal/abi.NoEscape", "internal/bytealg.MakeNoZero"], unfollowed := true, recurses := true, named := ["salvage/volume.kinds"], apart := false, laid := [("salvage/volume.kinds", laid_salvage_volume_kinds)] }
def IntactSaid : Prop := intactRow.holds Tryz.pinned (OpenSpec.ofChange intactSpec)

/-- ITS FALSE NEIGHBOUR: 'it returns false'. Refute it at one input. -/
def intactWrong : ChangeSpec := { name := "intact", fn := fun _ => fun
  | [d1, d2, d3] => { results := [.lit (.bool false)], args := [d1, d2, d3] }
  | _ => none }
def IntactWrongFalsely : Prop := intactRow.holds Tryz.pinned (OpenSpec.ofChange intactWrong)

/-- 'salvagekeep.Restored': WHATEVER THE INPUT: true; the input reads as it did. -/
def restoredSpec : ChangeSpec := { name := "restored", fn := fun _ => fun
  | [d1, d2, d3, d4] => { results := [.lit (.bool true)], args := [d1, d2, d3, d4] }
  | _ => none }
def restoredRow : OpenClaim := { program := "ytonjphollmdicaagreatdoor", sum := "076ffaa6ec87844e33a78f172a4c27b6fe3ea1bac66dcd9694c96ef43f0d91c7", func := "salvage/salvagekeep.Restored", spec := "restored", inPlace := ["internal/abi.NoEscape", "internal/bytealg.MakeNoZero"], unfollowed := true, recurses := true, named := ["salvage/volume.kinds"], apart := false, laid := [("salvage/volume.kinds", laid_salvage_volume_kinds)] }
def RestoredSaid : Prop := restoredRow.holds Tryz.pinned (OpenSpec.ofChange restoredSpec)

/-- ITS FALSE NEIGHBOUR: 'it returns false'. Refute it at one input. -/
def restoredWrong : ChangeSpec := { name := "restored", fn := fun _ => fun
  | [d1, d2, d3, d4] => { results := [.lit (.bool false)], args := [d1, d2, d3, d4] }
  | _ => none }
def RestoredWrongFalsely : Prop := restoredRow.holds Tryz.pinned (OpenSpec.ofChange restoredWrong)

/-- 'salvagekeep.Doubled': WHATEVER THE INPUT: true; the input reads as it did. -/
def doubledSpec : ChangeSpec := { name := "doubled", fn := fun _ => fun
  | [d1, d2, d3, d4] => { results := [.lit (.bool true)], args := [d1, d2, d3, d4] }
  | _ => none }
def doubledRow : OpenClaim := { program := "ytonjphollmdicaagreatdoor", sum := "076ffaa6ec87844e33a78f172a4c27b6fe3ea1bac66dcd9694c96ef43f0d91c7", func := "salvage/salvagekeep.Doubled", spec := "doubled", inPlace := ["internal/abi.NoEscape", "internal/bytealg.MakeNoZero"], unfollowed := true, recurses := true, named := ["salvage/volume.kinds"], apart := false, laid := [("salvage/volume.kinds", laid_salvage_volume_kinds)] }
def DoubledSaid : Prop := doubledRow.holds Tryz.pinned (OpenSpec.ofChange doubledSpec)

/-- ITS FALSE NEIGHBOUR: 'it returns false'. Refute it at one input. -/
def doubledWrong : ChangeSpec := { name := "doubled", fn := fun _ => fun
  | [d1, d2, d3, d4] => { results := [.lit (.bool false)], args := [d1, d2, d3, d4] }
  | _ => none }
def DoubledWrongFalsely : Prop := doubledRow.holds Tryz.pinned (OpenSpec.ofChange doubledWrong)

/-- 'salvagelaw.All': WHATEVER THE INPUT: true; the input reads as it did. -/
def allSpec : ChangeSpec := { name := "all", fn := fun _ => fun
  | [d] => { results := [.lit (.bool true)], args := [d] }
  | _ => none }
def allRow : OpenClaim := { program := "ytonjphollmdicaagreatdoor", sum := "076ffaa6ec87844e33a78f172a4c27b6fe3ea1bac66dcd9694c96ef43f0d91c7", func := "salvage/salvagelaw.All", spec := "all", inPlace := ["internal/abi.NoEscape", "internal/bytealg.MakeNoZero"], unfollowed := true, recurses := true, named := ["salvage/volume.kinds"], apart := false, laid := [("salvage/volume.kinds", laid_salvage_volume_kinds)] }
def AllSaid : Prop := allRow.holds Tryz.pinned (OpenSpec.ofChange allSpec)

/-- ITS FALSE NEIGHBOUR: 'it returns false'. Refute it at one input. -/
def allWrong : ChangeSpec := { name := "all", fn := fun _ => fun
  | [d] => { results := [.lit (.bool false)], args := [d] }
  | _ => none }
def AllWrongFalsely : Prop := allRow.holds Tryz.pinned (OpenSpec.ofChange allWrong)

/- THE SECOND FORM. 'bulk': how many values and letters a reading holds, each counted each time it is reached (what is shared counts as often as it is met; a slice's spare places count too). A statement '..UptoSaid' is the law's where the arguments, and the package variables that the reading takes, are together of bulk at most 1048576: NARROWER than '..Said'. Prove '..Said' where nothing that the law and all that it calls make is longer than what came in: it says more and counts as full. Else prove '..UptoSaid'. A law counts once. -/
mutual
def uptoBulk {H : Type} : DataW H → Nat
  | .lit (.string bytes) => bytes.length + 1
  | .lit _ => 1
  | .nil => 1
  | .ptr d => uptoBulk d + 1
  | .slice elems spare => uptoBulkAll elems + uptoBulkAll spare + 1
  | .agg parts => uptoBulkAll parts + 1
  | .iface _ d => uptoBulk d + 1
  | .map entries => uptoBulkEntries entries + 1
  | .held _ => 1
def uptoBulkAll {H : Type} : List (DataW H) → Nat
  | [] => 0
  | d :: r => uptoBulk d + uptoBulkAll r
def uptoBulkEntries {H : Type} : List (Lit × DataW H) → Nat
  | [] => 0
  | x :: r => uptoBulkEntry x + uptoBulkEntries r
def uptoBulkEntry {H : Type} : Lit × DataW H → Nat
  | (.string bytes, d) => bytes.length + uptoBulk d + 1
  | (_, d) => uptoBulk d + 1
 end
def uptoSmall : (H : Type) → List (DataW H) → Bool := fun _ ds => decide (uptoBulkAll ds ≤ 1048576)
def OpenSpec.upto (s : _root_.Go.ChangeSpec) : _root_.Go.OpenSpec := { _root_.Go.OpenSpec.ofChange s with cond := some uptoSmall }

/-- 'salvagelaw.Looks', WHERE WHAT IT READS IS OF BULK AT MOST 1048576: true; the input reads as it did. -/
def looksUptoRow : OpenClaim := { program := "ytonjphollmdicaagreatdoor", sum := "076ffaa6ec87844e33a78f172a4c27b6fe3ea1bac66dcd9694c96ef43f0d91c7", func := "salvage/salvagelaw.Looks", spec := "looks", inPlace := ["internal/abi.NoEscape", "internal/bytealg.MakeNoZero"], unfollowed := true, recurses := true, named := ["salvage/volume.kinds"], apart := false, laid := [("salvage/volume.kinds", laid_salvage_volume_kinds)], narrowed := true }
def LooksUptoSaid : Prop := looksUptoRow.holds Tryz.pinned (OpenSpec.upto looksSpec)

/-- 'salvagelaw.Repairs', WHERE WHAT IT READS IS OF BULK AT MOST 1048576: true; the input reads as it did. -/
def repairsUptoRow : OpenClaim := { program := "ytonjphollmdicaagreatdoor", sum := "076ffaa6ec87844e33a78f172a4c27b6fe3ea1bac66dcd9694c96ef43f0d91c7", func := "salvage/salvagelaw.Repairs", spec := "repairs", inPlace := ["internal/abi.NoEscape", "internal/bytealg.MakeNoZero"], unfollowed := true, recurses := true, named := ["salvage/volume.kinds"], apart := false, laid := [("salvage/volume.kinds", laid_salvage_volume_kinds)], narrowed := true }
def RepairsUptoSaid : Prop := repairsUptoRow.holds Tryz.pinned (OpenSpec.upto repairsSpec)

/-- 'salvagekeep.Intact', WHERE WHAT IT READS IS OF BULK AT MOST 1048576: true; the input reads as it did. -/
def intactUptoRow : OpenClaim := { program := "ytonjphollmdicaagreatdoor", sum := "076ffaa6ec87844e33a78f172a4c27b6fe3ea1bac66dcd9694c96ef43f0d91c7", func := "salvage/salvagekeep.Intact", spec := "intact", inPlace := ["internal/abi.NoEscape", "internal/bytealg.MakeNoZero"], unfollowed := true, recurses := true, named := ["salvage/volume.kinds"], apart := false, laid := [("salvage/volume.kinds", laid_salvage_volume_kinds)], narrowed := true }
def IntactUptoSaid : Prop := intactUptoRow.holds Tryz.pinned (OpenSpec.upto intactSpec)

/-- 'salvagekeep.Restored', WHERE WHAT IT READS IS OF BULK AT MOST 1048576: true; the input reads as it did. -/
def restoredUptoRow : OpenClaim := { program := "ytonjphollmdicaagreatdoor", sum := "076ffaa6ec87844e33a78f172a4c27b6fe3ea1bac66dcd9694c96ef43f0d91c7", func := "salvage/salvagekeep.Restored", spec := "restored", inPlace := ["internal/abi.NoEscape", "internal/bytealg.MakeNoZero"], unfollowed := true, recurses := true, named := ["salvage/volume.kinds"], apart := false, laid := [("salvage/volume.kinds", laid_salvage_volume_kinds)], narrowed := true }
def RestoredUptoSaid : Prop := restoredUptoRow.holds Tryz.pinned (OpenSpec.upto restoredSpec)

/-- 'salvagekeep.Doubled', WHERE WHAT IT READS IS OF BULK AT MOST 1048576: true; the input reads as it did. -/
def doubledUptoRow : OpenClaim := { program := "ytonjphollmdicaagreatdoor", sum := "076ffaa6ec87844e33a78f172a4c27b6fe3ea1bac66dcd9694c96ef43f0d91c7", func := "salvage/salvagekeep.Doubled", spec := "doubled", inPlace := ["internal/abi.NoEscape", "internal/bytealg.MakeNoZero"], unfollowed := true, recurses := true, named := ["salvage/volume.kinds"], apart := false, laid := [("salvage/volume.kinds", laid_salvage_volume_kinds)], narrowed := true }
def DoubledUptoSaid : Prop := doubledUptoRow.holds Tryz.pinned (OpenSpec.upto doubledSpec)

/-- 'salvagelaw.All', WHERE WHAT IT READS IS OF BULK AT MOST 1048576: true; the input reads as it did. -/
def allUptoRow : OpenClaim := { program := "ytonjphollmdicaagreatdoor", sum := "076ffaa6ec87844e33a78f172a4c27b6fe3ea1bac66dcd9694c96ef43f0d91c7", func := "salvage/salvagelaw.All", spec := "all", inPlace := ["internal/abi.NoEscape", "internal/bytealg.MakeNoZero"], unfollowed := true, recurses := true, named := ["salvage/volume.kinds"], apart := false, laid := [("salvage/volume.kinds", laid_salvage_volume_kinds)], narrowed := true }
def AllUptoSaid : Prop := allUptoRow.holds Tryz.pinned (OpenSpec.upto allSpec)

end Rows
end Go.Proofs.YtonjphollmdicaaGreatDoor
