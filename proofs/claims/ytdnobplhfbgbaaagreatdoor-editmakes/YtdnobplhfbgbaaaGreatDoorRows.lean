/-
  NARROWER THAN 'FOR EVERY INPUT', by the rows' own cells (each row's printed sentence says how): TreeForms: laid · EditAll: laid · EditMay: laid · EditMoves: laid · EditForms: laid · EditMakes: laid · EditDrops: laid · EditLinks: laid · BodyAll: laid · BodyStats: laid.
  DERIVED. THE GIVEN ROWS OF THIS SEAT. 10 by the template 'for every input the law returns true; each argument reads behind the call as it read before'; 0 by the template 'total and deterministic' (their statements: YtdnobplhfbgbaaaGreatDoorTotals.lean).
  GIVEN WITH THE SEED: the statements are not yours to turn. If you find one false, say at which input.
  Laid BY PROGRAM, IN A SANDBOX (cutbox-rows.mjs): the forced cells as the released guide's own fill.sh prints them over the translation a803b330e0c1c5b1… (all of the seat's roots in one cut). By AI agents, Wed Nov 11 2026. No macro, syntax, notation, axiom, sorry.
-/
import Derived.Test.YtdnobplhfbgbaaaGreatDoorChecked
import GoSem.PinnedTables
import GoSem.Claim
import GoSem.ClaimJoined
import GoSem.ClaimMapViews
import Derived.JoinedTies
import Derived.KernelRfl
namespace Go.Proofs.YtdnobplhfbgbaaaGreatDoor
/- THE CELL 'sum', in the pinned program and in every row, IS THE sha256 OF THE DUMP (.gsa) THAT YtdnobplhfbgbaaaGreatDoorProg.lean LOADS. Nothing in Lean hashes anything: it is a label: what it is worth is what the hold of that sum in a sandbox is worth. -/
noncomputable def Tryz.pinned : Pinned := { name := "ytdnobplhfbgbaaagreatdoor", sum := "a803b330e0c1c5b1ec0eb4310e45f841153a747d67d8ffccc75f1d1bc4083617", checked := Tryz.checked }
namespace Rows
def none {H : Type} : Left H := { results := [], args := [] }

/- WHAT THE LISTED PACKAGE-LEVEL VARIABLES READ AS WHEN THE CALL BEGINS. Each datum BY PROGRAM (the guide's laid-datum.mjs) off the statement by which the dump's own 'gosem.cut.vars' lays the variable. In a bare row this is a premise. The card (YtdnobplhfbgbaaaGreatDoorCards.lean) ties it to the program's text. -/
def laid_unicode_utf8_acceptRanges {H : Type} : DataW H := .agg [.agg [.lit (.int .u8 128), .lit (.int .u8 191)], .agg [.lit (.int .u8 160), .lit (.int .u8 191)], .agg [.lit (.int .u8 128), .lit (.int .u8 159)], .agg [.lit (.int .u8 144), .lit (.int .u8 191)], .agg [.lit (.int .u8 128), .lit (.int .u8 143)], .agg [.lit (.int .u8 0), .lit (.int .u8 0)], .agg [.lit (.int .u8 0), .lit (.int .u8 0)], .agg [.lit (.int .u8 0), .lit (.int .u8 0)], .agg [.lit (.int .u8 0), .lit (.int .u8 0)], .agg [.lit (.int .u8 0), .lit (.int .u8 0)], .agg [.lit (.int .u8 0), .lit (.int .u8 0)], .agg [.lit (.int .u8 0), .lit (.int .u8 0)], .agg [.lit (.int .u8 0), .lit (.int .u8 0)], .agg [.lit (.int .u8 0), .lit (.int .u8 0)], .agg [.lit (.int .u8 0), .lit (.int .u8 0)], .agg [.lit (.int .u8 0), .lit (.int .u8 0)]]
/-- One of Go's own tables, pinned by name: the form's constant. -/
def laid_unicode_utf8_first : DataW Unit := Go.Pinned.utf8First

/-- 'glacislaw8.TreeForms': WHATEVER THE INPUT: true; the input reads as it did. -/
def treeFormsSpec : ChangeSpec := { name := "treeForms", fn := fun _ => fun
  | [] => { results := [.lit (.bool true)], args := [] }
  | _ => none }
def treeFormsRow : OpenClaim := { program := "ytdnobplhfbgbaaagreatdoor", sum := "a803b330e0c1c5b1ec0eb4310e45f841153a747d67d8ffccc75f1d1bc4083617", func := "glacis/glacislaw8.TreeForms", spec := "treeForms", inPlace := ["internal/bytealg.CountString", "internal/bytealg.IndexByteString", "internal/bytealg.IndexString", "internal/abi.NoEscape", "internal/bytealg.MakeNoZero"], recurses := true, named := ["unicode/utf8.first", "unicode/utf8.acceptRanges", "internal/bytealg.MaxLen"], apart := false, laid := [("unicode/utf8.acceptRanges", laid_unicode_utf8_acceptRanges), ("unicode/utf8.first", laid_unicode_utf8_first)] }
def TreeFormsSaid : Prop := treeFormsRow.holds Tryz.pinned (OpenSpec.ofChange treeFormsSpec)

/-- ITS FALSE NEIGHBOUR: 'it returns false'. Refute it at one input. -/
def treeFormsWrong : ChangeSpec := { name := "treeForms", fn := fun _ => fun
  | [] => { results := [.lit (.bool false)], args := [] }
  | _ => none }
def TreeFormsWrongFalsely : Prop := treeFormsRow.holds Tryz.pinned (OpenSpec.ofChange treeFormsWrong)

/-- 'glacislaw9.EditAll': WHATEVER THE INPUT: true; the input reads as it did. -/
def editAllSpec : ChangeSpec := { name := "editAll", fn := fun _ => fun
  | [d1, d2, d3, d4, d5, d6, d7, d8] => { results := [.lit (.bool true)], args := [d1, d2, d3, d4, d5, d6, d7, d8] }
  | _ => none }
def editAllRow : OpenClaim := { program := "ytdnobplhfbgbaaagreatdoor", sum := "a803b330e0c1c5b1ec0eb4310e45f841153a747d67d8ffccc75f1d1bc4083617", func := "glacis/glacislaw9.EditAll", spec := "editAll", inPlace := ["internal/bytealg.CountString", "internal/bytealg.IndexByteString", "internal/bytealg.IndexString", "internal/abi.NoEscape", "internal/bytealg.MakeNoZero"], unfollowed := true, recurses := true, named := ["unicode/utf8.first", "unicode/utf8.acceptRanges", "internal/bytealg.MaxLen"], apart := false, laid := [("unicode/utf8.acceptRanges", laid_unicode_utf8_acceptRanges), ("unicode/utf8.first", laid_unicode_utf8_first)] }
def EditAllSaid : Prop := editAllRow.holds Tryz.pinned (OpenSpec.ofChange editAllSpec)

/-- ITS FALSE NEIGHBOUR: 'it returns false'. Refute it at one input. -/
def editAllWrong : ChangeSpec := { name := "editAll", fn := fun _ => fun
  | [d1, d2, d3, d4, d5, d6, d7, d8] => { results := [.lit (.bool false)], args := [d1, d2, d3, d4, d5, d6, d7, d8] }
  | _ => none }
def EditAllWrongFalsely : Prop := editAllRow.holds Tryz.pinned (OpenSpec.ofChange editAllWrong)

/-- 'glacislaw9.EditMay': WHATEVER THE INPUT: true; the input reads as it did. -/
def editMaySpec : ChangeSpec := { name := "editMay", fn := fun _ => fun
  | [d] => { results := [.lit (.bool true)], args := [d] }
  | _ => none }
def editMayRow : OpenClaim := { program := "ytdnobplhfbgbaaagreatdoor", sum := "a803b330e0c1c5b1ec0eb4310e45f841153a747d67d8ffccc75f1d1bc4083617", func := "glacis/glacislaw9.EditMay", spec := "editMay", inPlace := ["internal/bytealg.CountString", "internal/bytealg.IndexByteString", "internal/bytealg.IndexString", "internal/abi.NoEscape", "internal/bytealg.MakeNoZero"], unfollowed := true, recurses := true, named := ["unicode/utf8.first", "unicode/utf8.acceptRanges", "internal/bytealg.MaxLen"], apart := false, laid := [("unicode/utf8.acceptRanges", laid_unicode_utf8_acceptRanges), ("unicode/utf8.first", laid_unicode_utf8_first)] }
def EditMaySaid : Prop := editMayRow.holds Tryz.pinned (OpenSpec.ofChange editMaySpec)

/-- ITS FALSE NEIGHBOUR: 'it returns false'. Refute it at one input. -/
def editMayWrong : ChangeSpec := { name := "editMay", fn := fun _ => fun
  | [d] => { results := [.lit (.bool false)], args := [d] }
  | _ => none }
def EditMayWrongFalsely : Prop := editMayRow.holds Tryz.pinned (OpenSpec.ofChange editMayWrong)

/-- 'glacislaw9.EditMoves': WHATEVER THE INPUT: true; the input reads as it did. -/
def editMovesSpec : ChangeSpec := { name := "editMoves", fn := fun _ => fun
  | [d1, d2] => { results := [.lit (.bool true)], args := [d1, d2] }
  | _ => none }
def editMovesRow : OpenClaim := { program := "ytdnobplhfbgbaaagreatdoor", sum := "a803b330e0c1c5b1ec0eb4310e45f841153a747d67d8ffccc75f1d1bc4083617", func := "glacis/glacislaw9.EditMoves", spec := "editMoves", inPlace := ["internal/bytealg.CountString", "internal/bytealg.IndexByteString", "internal/bytealg.IndexString", "internal/abi.NoEscape", "internal/bytealg.MakeNoZero"], unfollowed := true, recurses := true, named := ["unicode/utf8.first", "unicode/utf8.acceptRanges", "internal/bytealg.MaxLen"], apart := false, laid := [("unicode/utf8.acceptRanges", laid_unicode_utf8_acceptRanges), ("unicode/utf8.first", laid_unicode_utf8_first)] }
def EditMovesSaid : Prop := editMovesRow.holds Tryz.pinned (OpenSpec.ofChange editMovesSpec)

/-- ITS FALSE NEIGHBOUR: 'it returns false'. Refute it at one input. -/
def editMovesWrong : ChangeSpec := { name := "editMoves", fn := fun _ => fun
  | [d1, d2] => { results := [.lit (.bool false)], args := [d1, d2] }
  | _ => none }
def EditMovesWrongFalsely : Prop := editMovesRow.holds Tryz.pinned (OpenSpec.ofChange editMovesWrong)

/-- 'glacislaw9.EditForms': WHATEVER THE INPUT: true; the input reads as it did. -/
def editFormsSpec : ChangeSpec := { name := "editForms", fn := fun _ => fun
  | [] => { results := [.lit (.bool true)], args := [] }
  | _ => none }
def editFormsRow : OpenClaim := { program := "ytdnobplhfbgbaaagreatdoor", sum := "a803b330e0c1c5b1ec0eb4310e45f841153a747d67d8ffccc75f1d1bc4083617", func := "glacis/glacislaw9.EditForms", spec := "editForms", inPlace := ["internal/bytealg.CountString", "internal/bytealg.IndexByteString", "internal/bytealg.IndexString", "internal/abi.NoEscape", "internal/bytealg.MakeNoZero"], unfollowed := true, recurses := true, named := ["unicode/utf8.first", "unicode/utf8.acceptRanges", "internal/bytealg.MaxLen"], apart := false, laid := [("unicode/utf8.acceptRanges", laid_unicode_utf8_acceptRanges), ("unicode/utf8.first", laid_unicode_utf8_first)] }
def EditFormsSaid : Prop := editFormsRow.holds Tryz.pinned (OpenSpec.ofChange editFormsSpec)

/-- ITS FALSE NEIGHBOUR: 'it returns false'. Refute it at one input. -/
def editFormsWrong : ChangeSpec := { name := "editForms", fn := fun _ => fun
  | [] => { results := [.lit (.bool false)], args := [] }
  | _ => none }
def EditFormsWrongFalsely : Prop := editFormsRow.holds Tryz.pinned (OpenSpec.ofChange editFormsWrong)

/-- 'glacislaw9.EditMakes': WHATEVER THE INPUT: true; the input reads as it did. -/
def editMakesSpec : ChangeSpec := { name := "editMakes", fn := fun _ => fun
  | [d1, d2, d3, d4] => { results := [.lit (.bool true)], args := [d1, d2, d3, d4] }
  | _ => none }
def editMakesRow : OpenClaim := { program := "ytdnobplhfbgbaaagreatdoor", sum := "a803b330e0c1c5b1ec0eb4310e45f841153a747d67d8ffccc75f1d1bc4083617", func := "glacis/glacislaw9.EditMakes", spec := "editMakes", inPlace := ["internal/bytealg.CountString", "internal/bytealg.IndexByteString", "internal/bytealg.IndexString", "internal/abi.NoEscape", "internal/bytealg.MakeNoZero"], unfollowed := true, recurses := true, named := ["unicode/utf8.first", "unicode/utf8.acceptRanges", "internal/bytealg.MaxLen"], apart := false, laid := [("unicode/utf8.acceptRanges", laid_unicode_utf8_acceptRanges), ("unicode/utf8.first", laid_unicode_utf8_first)] }
def EditMakesSaid : Prop := editMakesRow.holds Tryz.pinned (OpenSpec.ofChange editMakesSpec)

/-- ITS FALSE NEIGHBOUR: 'it returns false'. Refute it at one input. -/
def editMakesWrong : ChangeSpec := { name := "editMakes", fn := fun _ => fun
  | [d1, d2, d3, d4] => { results := [.lit (.bool false)], args := [d1, d2, d3, d4] }
  | _ => none }
def EditMakesWrongFalsely : Prop := editMakesRow.holds Tryz.pinned (OpenSpec.ofChange editMakesWrong)

/-- 'glacislaw9.EditDrops': WHATEVER THE INPUT: true; the input reads as it did. -/
def editDropsSpec : ChangeSpec := { name := "editDrops", fn := fun _ => fun
  | [d1, d2] => { results := [.lit (.bool true)], args := [d1, d2] }
  | _ => none }
def editDropsRow : OpenClaim := { program := "ytdnobplhfbgbaaagreatdoor", sum := "a803b330e0c1c5b1ec0eb4310e45f841153a747d67d8ffccc75f1d1bc4083617", func := "glacis/glacislaw9.EditDrops", spec := "editDrops", inPlace := ["internal/bytealg.CountString", "internal/bytealg.IndexByteString", "internal/bytealg.IndexString", "internal/abi.NoEscape", "internal/bytealg.MakeNoZero"], unfollowed := true, recurses := true, named := ["unicode/utf8.first", "unicode/utf8.acceptRanges", "internal/bytealg.MaxLen"], apart := false, laid := [("unicode/utf8.acceptRanges", laid_unicode_utf8_acceptRanges), ("unicode/utf8.first", laid_unicode_utf8_first)] }
def EditDropsSaid : Prop := editDropsRow.holds Tryz.pinned (OpenSpec.ofChange editDropsSpec)

/-- ITS FALSE NEIGHBOUR: 'it returns false'. Refute it at one input. -/
def editDropsWrong : ChangeSpec := { name := "editDrops", fn := fun _ => fun
  | [d1, d2] => { results := [.lit (.bool false)], args := [d1, d2] }
  | _ => none }
def EditDropsWrongFalsely : Prop := editDropsRow.holds Tryz.pinned (OpenSpec.ofChange editDropsWrong)

/-- 'glacislaw9.EditLinks': WHATEVER THE INPUT: true; the input reads as it did. -/
def editLinksSpec : ChangeSpec := { name := "editLinks", fn := fun _ => fun
  | [d1, d2] => { results := [.lit (.bool true)], args := [d1, d2] }
  | _ => none }
def editLinksRow : OpenClaim := { program := "ytdnobplhfbgbaaagreatdoor", sum := "a803b330e0c1c5b1ec0eb4310e45f841153a747d67d8ffccc75f1d1bc4083617", func := "glacis/glacislaw9.EditLinks", spec := "editLinks", inPlace := ["internal/bytealg.CountString", "internal/bytealg.IndexByteString", "internal/bytealg.IndexString", "internal/abi.NoEscape", "internal/bytealg.MakeNoZero"], unfollowed := true, recurses := true, named := ["unicode/utf8.first", "unicode/utf8.acceptRanges", "internal/bytealg.MaxLen"], apart := false, laid := [("unicode/utf8.acceptRanges", laid_unicode_utf8_acceptRanges), ("unicode/utf8.first", laid_unicode_utf8_first)] }
def EditLinksSaid : Prop := editLinksRow.holds Tryz.pinned (OpenSpec.ofChange editLinksSpec)

/-- ITS FALSE NEIGHBOUR: 'it returns false'. Refute it at one input. -/
def editLinksWrong : ChangeSpec := { name := "editLinks", fn := fun _ => fun
  | [d1, d2] => { results := [.lit (.bool false)], args := [d1, d2] }
  | _ => none }
def EditLinksWrongFalsely : Prop := editLinksRow.holds Tryz.pinned (OpenSpec.ofChange editLinksWrong)

/-- 'glacislaw10.BodyAll': WHATEVER THE INPUT: true; the input reads as it did. -/
def bodyAllSpec : ChangeSpec := { name := "bodyAll", fn := fun _ => fun
  | [d1, d2, d3, d4, d5, d6, d7, d8] => { results := [.lit (.bool true)], args := [d1, d2, d3, d4, d5, d6, d7, d8] }
  | _ => none }
def bodyAllRow : OpenClaim := { program := "ytdnobplhfbgbaaagreatdoor", sum := "a803b330e0c1c5b1ec0eb4310e45f841153a747d67d8ffccc75f1d1bc4083617", func := "glacis/glacislaw10.BodyAll", spec := "bodyAll", inPlace := ["internal/bytealg.CountString", "internal/bytealg.IndexByteString", "internal/bytealg.IndexString"], unfollowed := true, recurses := true, named := ["unicode/utf8.first", "unicode/utf8.acceptRanges", "internal/bytealg.MaxLen"], apart := false, laid := [("unicode/utf8.acceptRanges", laid_unicode_utf8_acceptRanges), ("unicode/utf8.first", laid_unicode_utf8_first)] }
def BodyAllSaid : Prop := bodyAllRow.holds Tryz.pinned (OpenSpec.ofChange bodyAllSpec)

/-- ITS FALSE NEIGHBOUR: 'it returns false'. Refute it at one input. -/
def bodyAllWrong : ChangeSpec := { name := "bodyAll", fn := fun _ => fun
  | [d1, d2, d3, d4, d5, d6, d7, d8] => { results := [.lit (.bool false)], args := [d1, d2, d3, d4, d5, d6, d7, d8] }
  | _ => none }
def BodyAllWrongFalsely : Prop := bodyAllRow.holds Tryz.pinned (OpenSpec.ofChange bodyAllWrong)

/-- 'glacislaw10.BodyStats': WHATEVER THE INPUT: true; the input reads as it did. -/
def bodyStatsSpec : ChangeSpec := { name := "bodyStats", fn := fun _ => fun
  | [d] => { results := [.lit (.bool true)], args := [d] }
  | _ => none }
def bodyStatsRow : OpenClaim := { program := "ytdnobplhfbgbaaagreatdoor", sum := "a803b330e0c1c5b1ec0eb4310e45f841153a747d67d8ffccc75f1d1bc4083617", func := "glacis/glacislaw10.BodyStats", spec := "bodyStats", inPlace := ["internal/bytealg.CountString", "internal/bytealg.IndexByteString", "internal/bytealg.IndexString"], unfollowed := true, recurses := true, named := ["unicode/utf8.first", "unicode/utf8.acceptRanges", "internal/bytealg.MaxLen"], apart := false, laid := [("unicode/utf8.acceptRanges", laid_unicode_utf8_acceptRanges), ("unicode/utf8.first", laid_unicode_utf8_first)] }
def BodyStatsSaid : Prop := bodyStatsRow.holds Tryz.pinned (OpenSpec.ofChange bodyStatsSpec)

/-- ITS FALSE NEIGHBOUR: 'it returns false'. Refute it at one input. -/
def bodyStatsWrong : ChangeSpec := { name := "bodyStats", fn := fun _ => fun
  | [d] => { results := [.lit (.bool false)], args := [d] }
  | _ => none }
def BodyStatsWrongFalsely : Prop := bodyStatsRow.holds Tryz.pinned (OpenSpec.ofChange bodyStatsWrong)

/- THE SECOND FORM. 'bulk': how many values and letters a reading holds, each counted each time it is reached (what is shared counts as often as it is met; a slice's spare places count too). A statement '..UptoSaid' is the law's where the arguments, and the package variables that the reading takes, are together of bulk at most 1048576: NARROWER than '..Said'. Prove '..Said' where nothing that the law and all that it calls make is longer than what came in: it says more and counts as full. Else prove '..UptoSaid'. A law counts once. -/
mutual
def uptoBulk {H : Type} : DataW H → Nat
  | .lit (.string bytes) => bytes.length + 1
  | .lit _ => 1
  | .nil => 1
  | .ptr d => uptoBulk d + 1
  | .slice elems spare => uptoBulkAll elems + uptoBulkAll spare + 1
  | .agg parts => uptoBulkAll parts + 1
  | .iface _ d => uptoBulk d + 1
  | .map entries => uptoBulkEntries entries + 1
  | .held _ => 1
def uptoBulkAll {H : Type} : List (DataW H) → Nat
  | [] => 0
  | d :: r => uptoBulk d + uptoBulkAll r
def uptoBulkEntries {H : Type} : List (Lit × DataW H) → Nat
  | [] => 0
  | x :: r => uptoBulkEntry x + uptoBulkEntries r
def uptoBulkEntry {H : Type} : Lit × DataW H → Nat
  | (.string bytes, d) => bytes.length + uptoBulk d + 1
  | (_, d) => uptoBulk d + 1
 end
def uptoSmall : (H : Type) → List (DataW H) → Bool := fun _ ds => decide (uptoBulkAll ds ≤ 1048576)
def OpenSpec.upto (s : _root_.Go.ChangeSpec) : _root_.Go.OpenSpec := { _root_.Go.OpenSpec.ofChange s with cond := some uptoSmall }

/-- 'glacislaw8.TreeForms', WHERE WHAT IT READS IS OF BULK AT MOST 1048576: true; the input reads as it did. -/
def treeFormsUptoRow : OpenClaim := { program := "ytdnobplhfbgbaaagreatdoor", sum := "a803b330e0c1c5b1ec0eb4310e45f841153a747d67d8ffccc75f1d1bc4083617", func := "glacis/glacislaw8.TreeForms", spec := "treeForms", inPlace := ["internal/bytealg.CountString", "internal/bytealg.IndexByteString", "internal/bytealg.IndexString", "internal/abi.NoEscape", "internal/bytealg.MakeNoZero"], recurses := true, named := ["unicode/utf8.first", "unicode/utf8.acceptRanges", "internal/bytealg.MaxLen"], apart := false, laid := [("unicode/utf8.acceptRanges", laid_unicode_utf8_acceptRanges), ("unicode/utf8.first", laid_unicode_utf8_first)], narrowed := true }
def TreeFormsUptoSaid : Prop := treeFormsUptoRow.holds Tryz.pinned (OpenSpec.upto treeFormsSpec)

/-- 'glacislaw9.EditAll', WHERE WHAT IT READS IS OF BULK AT MOST 1048576: true; the input reads as it did. -/
def editAllUptoRow : OpenClaim := { program := "ytdnobplhfbgbaaagreatdoor", sum := "a803b330e0c1c5b1ec0eb4310e45f841153a747d67d8ffccc75f1d1bc4083617", func := "glacis/glacislaw9.EditAll", spec := "editAll", inPlace := ["internal/bytealg.CountString", "internal/bytealg.IndexByteString", "internal/bytealg.IndexString", "internal/abi.NoEscape", "internal/bytealg.MakeNoZero"], unfollowed := true, recurses := true, named := ["unicode/utf8.first", "unicode/utf8.acceptRanges", "internal/bytealg.MaxLen"], apart := false, laid := [("unicode/utf8.acceptRanges", laid_unicode_utf8_acceptRanges), ("unicode/utf8.first", laid_unicode_utf8_first)], narrowed := true }
def EditAllUptoSaid : Prop := editAllUptoRow.holds Tryz.pinned (OpenSpec.upto editAllSpec)

/-- 'glacislaw9.EditMay', WHERE WHAT IT READS IS OF BULK AT MOST 1048576: true; the input reads as it did. -/
def editMayUptoRow : OpenClaim := { program := "ytdnobplhfbgbaaagreatdoor", sum := "a803b330e0c1c5b1ec0eb4310e45f841153a747d67d8ffccc75f1d1bc4083617", func := "glacis/glacislaw9.EditMay", spec := "editMay", inPlace := ["internal/bytealg.CountString", "internal/bytealg.IndexByteString", "internal/bytealg.IndexString", "internal/abi.NoEscape", "internal/bytealg.MakeNoZero"], unfollowed := true, recurses := true, named := ["unicode/utf8.first", "unicode/utf8.acceptRanges", "internal/bytealg.MaxLen"], apart := false, laid := [("unicode/utf8.acceptRanges", laid_unicode_utf8_acceptRanges), ("unicode/utf8.first", laid_unicode_utf8_first)], narrowed := true }
def EditMayUptoSaid : Prop := editMayUptoRow.holds Tryz.pinned (OpenSpec.upto editMaySpec)

/-- 'glacislaw9.EditMoves', WHERE WHAT IT READS IS OF BULK AT MOST 1048576: true; the input reads as it did. -/
def editMovesUptoRow : OpenClaim := { program := "ytdnobplhfbgbaaagreatdoor", sum := "a803b330e0c1c5b1ec0eb4310e45f841153a747d67d8ffccc75f1d1bc4083617", func := "glacis/glacislaw9.EditMoves", spec := "editMoves", inPlace := ["internal/bytealg.CountString", "internal/bytealg.IndexByteString", "internal/bytealg.IndexString", "internal/abi.NoEscape", "internal/bytealg.MakeNoZero"], unfollowed := true, recurses := true, named := ["unicode/utf8.first", "unicode/utf8.acceptRanges", "internal/bytealg.MaxLen"], apart := false, laid := [("unicode/utf8.acceptRanges", laid_unicode_utf8_acceptRanges), ("unicode/utf8.first", laid_unicode_utf8_first)], narrowed := true }
def EditMovesUptoSaid : Prop := editMovesUptoRow.holds Tryz.pinned (OpenSpec.upto editMovesSpec)

/-- 'glacislaw9.EditForms', WHERE WHAT IT READS IS OF BULK AT MOST 1048576: true; the input reads as it did. -/
def editFormsUptoRow : OpenClaim := { program := "ytdnobplhfbgbaaagreatdoor", sum := "a803b330e0c1c5b1ec0eb4310e45f841153a747d67d8ffccc75f1d1bc4083617", func := "glacis/glacislaw9.EditForms", spec := "editForms", inPlace := ["internal/bytealg.CountString", "internal/bytealg.IndexByteString", "internal/bytealg.IndexString", "internal/abi.NoEscape", "internal/bytealg.MakeNoZero"], unfollowed := true, recurses := true, named := ["unicode/utf8.first", "unicode/utf8.acceptRanges", "internal/bytealg.MaxLen"], apart := false, laid := [("unicode/utf8.acceptRanges", laid_unicode_utf8_acceptRanges), ("unicode/utf8.first", laid_unicode_utf8_first)], narrowed := true }
def EditFormsUptoSaid : Prop := editFormsUptoRow.holds Tryz.pinned (OpenSpec.upto editFormsSpec)

/-- 'glacislaw9.EditMakes', WHERE WHAT IT READS IS OF BULK AT MOST 1048576: true; the input reads as it did. -/
def editMakesUptoRow : OpenClaim := { program := "ytdnobplhfbgbaaagreatdoor", sum := "a803b330e0c1c5b1ec0eb4310e45f841153a747d67d8ffccc75f1d1bc4083617", func := "glacis/glacislaw9.EditMakes", spec := "editMakes", inPlace := ["internal/bytealg.CountString", "internal/bytealg.IndexByteString", "internal/bytealg.IndexString", "internal/abi.NoEscape", "internal/bytealg.MakeNoZero"], unfollowed := true, recurses := true, named := ["unicode/utf8.first", "unicode/utf8.acceptRanges", "internal/bytealg.MaxLen"], apart := false, laid := [("unicode/utf8.acceptRanges", laid_unicode_utf8_acceptRanges), ("unicode/utf8.first", laid_unicode_utf8_first)], narrowed := true }
def EditMakesUptoSaid : Prop := editMakesUptoRow.holds Tryz.pinned (OpenSpec.upto editMakesSpec)

/-- 'glacislaw9.EditDrops', WHERE WHAT IT READS IS OF BULK AT MOST 1048576: true; the input reads as it did. -/
def editDropsUptoRow : OpenClaim := { program := "ytdnobplhfbgbaaagreatdoor", sum := "a803b330e0c1c5b1ec0eb4310e45f841153a747d67d8ffccc75f1d1bc4083617", func := "glacis/glacislaw9.EditDrops", spec := "editDrops", inPlace := ["internal/bytealg.CountString", "internal/bytealg.IndexByteString", "internal/bytealg.IndexString", "internal/abi.NoEscape", "internal/bytealg.MakeNoZero"], unfollowed := true, recurses := true, named := ["unicode/utf8.first", "unicode/utf8.acceptRanges", "internal/bytealg.MaxLen"], apart := false, laid := [("unicode/utf8.acceptRanges", laid_unicode_utf8_acceptRanges), ("unicode/utf8.first", laid_unicode_utf8_first)], narrowed := true }
def EditDropsUptoSaid : Prop := editDropsUptoRow.holds Tryz.pinned (OpenSpec.upto editDropsSpec)

/-- 'glacislaw9.EditLinks', WHERE WHAT IT READS IS OF BULK AT MOST 1048576: true; the input reads as it did. -/
def editLinksUptoRow : OpenClaim := { program := "ytdnobplhfbgbaaagreatdoor", sum := "a803b330e0c1c5b1ec0eb4310e45f841153a747d67d8ffccc75f1d1bc4083617", func := "glacis/glacislaw9.EditLinks", spec := "editLinks", inPlace := ["internal/bytealg.CountString", "internal/bytealg.IndexByteString", "internal/bytealg.IndexString", "internal/abi.NoEscape", "internal/bytealg.MakeNoZero"], unfollowed := true, recurses := true, named := ["unicode/utf8.first", "unicode/utf8.acceptRanges", "internal/bytealg.MaxLen"], apart := false, laid := [("unicode/utf8.acceptRanges", laid_unicode_utf8_acceptRanges), ("unicode/utf8.first", laid_unicode_utf8_first)], narrowed := true }
def EditLinksUptoSaid : Prop := editLinksUptoRow.holds Tryz.pinned (OpenSpec.upto editLinksSpec)

/-- 'glacislaw10.BodyAll', WHERE WHAT IT READS IS OF BULK AT MOST 1048576: true; the input reads as it did. -/
def bodyAllUptoRow : OpenClaim := { program := "ytdnobplhfbgbaaagreatdoor", sum := "a803b330e0c1c5b1ec0eb4310e45f841153a747d67d8ffccc75f1d1bc4083617", func := "glacis/glacislaw10.BodyAll", spec := "bodyAll", inPlace := ["internal/bytealg.CountString", "internal/bytealg.IndexByteString", "internal/bytealg.IndexString"], unfollowed := true, recurses := true, named := ["unicode/utf8.first", "unicode/utf8.acceptRanges", "internal/bytealg.MaxLen"], apart := false, laid := [("unicode/utf8.acceptRanges", laid_unicode_utf8_acceptRanges), ("unicode/utf8.first", laid_unicode_utf8_first)], narrowed := true }
def BodyAllUptoSaid : Prop := bodyAllUptoRow.holds Tryz.pinned (OpenSpec.upto bodyAllSpec)

/-- 'glacislaw10.BodyStats', WHERE WHAT IT READS IS OF BULK AT MOST 1048576: true; the input reads as it did. -/
def bodyStatsUptoRow : OpenClaim := { program := "ytdnobplhfbgbaaagreatdoor", sum := "a803b330e0c1c5b1ec0eb4310e45f841153a747d67d8ffccc75f1d1bc4083617", func := "glacis/glacislaw10.BodyStats", spec := "bodyStats", inPlace := ["internal/bytealg.CountString", "internal/bytealg.IndexByteString", "internal/bytealg.IndexString"], unfollowed := true, recurses := true, named := ["unicode/utf8.first", "unicode/utf8.acceptRanges", "internal/bytealg.MaxLen"], apart := false, laid := [("unicode/utf8.acceptRanges", laid_unicode_utf8_acceptRanges), ("unicode/utf8.first", laid_unicode_utf8_first)], narrowed := true }
def BodyStatsUptoSaid : Prop := bodyStatsUptoRow.holds Tryz.pinned (OpenSpec.upto bodyStatsSpec)

end Rows
end Go.Proofs.YtdnobplhfbgbaaaGreatDoor
