/-
  No cell of these rows narrows 'for every input' (looked for: loops, veiled, ifaces, maps, wideKeys, modest, calm, conditions, laid).
  DERIVED. THE GIVEN ROWS OF THIS SEAT. 3 by the template 'for every input the law returns true; each argument reads behind the call as it read before'; 0 by the template 'total and deterministic' (their statements: YtiecmkecmdbcaaaTotals.lean).
  GIVEN WITH THE SEED: the statements are not yours to turn. If you find one false, say at which input.
  Laid BY PROGRAM, IN A SANDBOX (cutbox-rows.mjs): the forced cells as the released guide's own fill.sh prints them over the translation 5a7fdcb1b3b9838c… (all of the seat's roots in one cut). By AI agents, Wed Nov 11 2026. No macro, syntax, notation, axiom, sorry.
-/
import Derived.Test.YtiecmkecmdbcaaaChecked
import GoSem.Claim
import GoSem.ClaimJoined
import GoSem.ClaimMapViews
import Derived.JoinedTies
import Derived.KernelRfl
namespace Go.Proofs.Ytiecmkecmdbcaaa
/- THE CELL 'sum', in the pinned program and in every row, IS THE sha256 OF THE DUMP (.gsa) THAT YtiecmkecmdbcaaaProg.lean LOADS. Nothing in Lean hashes anything: it is a label: what it is worth is what the hold of that sum in a sandbox is worth. -/
noncomputable def Try.pinned : Pinned := { name := "ytiecmkecmdbcaaa", sum := "5a7fdcb1b3b9838ca35843fd4e5391eb9168bb0c969c3aac71a9a9cf8cc0d679", checked := Try.checked }
namespace Rows
def none {H : Type} : Left H := { results := [], args := [] }

/-- 'syntagmalaw02.QuotePrints': WHATEVER THE INPUT: true; the input reads as it did. -/
def quotePrintsSpec : ChangeSpec := { name := "quotePrints", fn := fun _ => fun
  | [d] => { results := [.lit (.bool true)], args := [d] }
  | _ => none }
def quotePrintsRow : OpenClaim := { program := "ytiecmkecmdbcaaa", sum := "5a7fdcb1b3b9838ca35843fd4e5391eb9168bb0c969c3aac71a9a9cf8cc0d679", func := "syntagma/syntagmalaw02.QuotePrints", spec := "quotePrints", inPlace := ["internal/bytealg.IndexByteString"], apart := false }
def QuotePrintsSaid : Prop := quotePrintsRow.holds Try.pinned (OpenSpec.ofChange quotePrintsSpec)

/-- ITS FALSE NEIGHBOUR: 'it returns false'. Refute it at one input. -/
def quotePrintsWrong : ChangeSpec := { name := "quotePrints", fn := fun _ => fun
  | [d] => { results := [.lit (.bool false)], args := [d] }
  | _ => none }
def QuotePrintsWrongFalsely : Prop := quotePrintsRow.holds Try.pinned (OpenSpec.ofChange quotePrintsWrong)

/-- 'syntagmalaw02.QuoteTakes': WHATEVER THE INPUT: true; the input reads as it did. -/
def quoteTakesSpec : ChangeSpec := { name := "quoteTakes", fn := fun _ => fun
  | [d] => { results := [.lit (.bool true)], args := [d] }
  | _ => none }
def quoteTakesRow : OpenClaim := { program := "ytiecmkecmdbcaaa", sum := "5a7fdcb1b3b9838ca35843fd4e5391eb9168bb0c969c3aac71a9a9cf8cc0d679", func := "syntagma/syntagmalaw02.QuoteTakes", spec := "quoteTakes", inPlace := ["internal/bytealg.IndexByteString"], apart := false }
def QuoteTakesSaid : Prop := quoteTakesRow.holds Try.pinned (OpenSpec.ofChange quoteTakesSpec)

/-- ITS FALSE NEIGHBOUR: 'it returns false'. Refute it at one input. -/
def quoteTakesWrong : ChangeSpec := { name := "quoteTakes", fn := fun _ => fun
  | [d] => { results := [.lit (.bool false)], args := [d] }
  | _ => none }
def QuoteTakesWrongFalsely : Prop := quoteTakesRow.holds Try.pinned (OpenSpec.ofChange quoteTakesWrong)

/-- 'syntagmalaw02.QuoteBack': WHATEVER THE INPUT: true; the input reads as it did. -/
def quoteBackSpec : ChangeSpec := { name := "quoteBack", fn := fun _ => fun
  | [d1, d2] => { results := [.lit (.bool true)], args := [d1, d2] }
  | _ => none }
def quoteBackRow : OpenClaim := { program := "ytiecmkecmdbcaaa", sum := "5a7fdcb1b3b9838ca35843fd4e5391eb9168bb0c969c3aac71a9a9cf8cc0d679", func := "syntagma/syntagmalaw02.QuoteBack", spec := "quoteBack", inPlace := ["internal/bytealg.IndexByteString"], apart := false }
def QuoteBackSaid : Prop := quoteBackRow.holds Try.pinned (OpenSpec.ofChange quoteBackSpec)

/-- ITS FALSE NEIGHBOUR: 'it returns false'. Refute it at one input. -/
def quoteBackWrong : ChangeSpec := { name := "quoteBack", fn := fun _ => fun
  | [d1, d2] => { results := [.lit (.bool false)], args := [d1, d2] }
  | _ => none }
def QuoteBackWrongFalsely : Prop := quoteBackRow.holds Try.pinned (OpenSpec.ofChange quoteBackWrong)

/- THE SECOND FORM. 'bulk': how many values and letters a reading holds, each counted each time it is reached (what is shared counts as often as it is met; a slice's spare places count too). A statement '..UptoSaid' is the law's where the arguments, and the package variables that the reading takes, are together of bulk at most 1048576: NARROWER than '..Said'. Prove '..Said' where nothing that the law and all that it calls make is longer than what came in: it says more and counts as full. Else prove '..UptoSaid'. A law counts once. -/
mutual
def uptoBulk {H : Type} : DataW H → Nat
  | .lit (.string bytes) => bytes.length + 1
  | .lit _ => 1
  | .nil => 1
  | .ptr d => uptoBulk d + 1
  | .slice elems spare => uptoBulkAll elems + uptoBulkAll spare + 1
  | .agg parts => uptoBulkAll parts + 1
  | .iface _ d => uptoBulk d + 1
  | .map entries => uptoBulkEntries entries + 1
  | .held _ => 1
def uptoBulkAll {H : Type} : List (DataW H) → Nat
  | [] => 0
  | d :: r => uptoBulk d + uptoBulkAll r
def uptoBulkEntries {H : Type} : List (Lit × DataW H) → Nat
  | [] => 0
  | x :: r => uptoBulkEntry x + uptoBulkEntries r
def uptoBulkEntry {H : Type} : Lit × DataW H → Nat
  | (.string bytes, d) => bytes.length + uptoBulk d + 1
  | (_, d) => uptoBulk d + 1
 end
def uptoSmall : (H : Type) → List (DataW H) → Bool := fun _ ds => decide (uptoBulkAll ds ≤ 1048576)
def OpenSpec.upto (s : _root_.Go.ChangeSpec) : _root_.Go.OpenSpec := { _root_.Go.OpenSpec.ofChange s with cond := some uptoSmall }

/-- 'syntagmalaw02.QuotePrints', WHERE WHAT IT READS IS OF BULK AT MOST 1048576: true; the input reads as it did. -/
def quotePrintsUptoRow : OpenClaim := { program := "ytiecmkecmdbcaaa", sum := "5a7fdcb1b3b9838ca35843fd4e5391eb9168bb0c969c3aac71a9a9cf8cc0d679", func := "syntagma/syntagmalaw02.QuotePrints", spec := "quotePrints", inPlace := ["internal/bytealg.IndexByteString"], apart := false, narrowed := true }
def QuotePrintsUptoSaid : Prop := quotePrintsUptoRow.holds Try.pinned (OpenSpec.upto quotePrintsSpec)

/-- 'syntagmalaw02.QuoteTakes', WHERE WHAT IT READS IS OF BULK AT MOST 1048576: true; the input reads as it did. -/
def quoteTakesUptoRow : OpenClaim := { program := "ytiecmkecmdbcaaa", sum := "5a7fdcb1b3b9838ca35843fd4e5391eb9168bb0c969c3aac71a9a9cf8cc0d679", func := "syntagma/syntagmalaw02.QuoteTakes", spec := "quoteTakes", inPlace := ["internal/bytealg.IndexByteString"], apart := false, narrowed := true }
def QuoteTakesUptoSaid : Prop := quoteTakesUptoRow.holds Try.pinned (OpenSpec.upto quoteTakesSpec)

/-- 'syntagmalaw02.QuoteBack', WHERE WHAT IT READS IS OF BULK AT MOST 1048576: true; the input reads as it did. -/
def quoteBackUptoRow : OpenClaim := { program := "ytiecmkecmdbcaaa", sum := "5a7fdcb1b3b9838ca35843fd4e5391eb9168bb0c969c3aac71a9a9cf8cc0d679", func := "syntagma/syntagmalaw02.QuoteBack", spec := "quoteBack", inPlace := ["internal/bytealg.IndexByteString"], apart := false, narrowed := true }
def QuoteBackUptoSaid : Prop := quoteBackUptoRow.holds Try.pinned (OpenSpec.upto quoteBackSpec)

end Rows
end Go.Proofs.Ytiecmkecmdbcaaa
