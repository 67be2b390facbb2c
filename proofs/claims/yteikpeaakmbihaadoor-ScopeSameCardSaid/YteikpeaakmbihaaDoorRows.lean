/-
  NARROWER THAN 'FOR EVERY INPUT', by the rows' own cells (each row's printed sentence says how): TreeMays: laid · TreeNorms: laid · TreeJoins: laid · TreeStays: laid · ScopeBinders: laid · ScopeFree: laid · ScopeSame: laid.
  DERIVED. THE GIVEN ROWS OF THIS SEAT. 7 by the template 'for every input the law returns true; each argument reads behind the call as it read before'; 0 by the template 'total and deterministic' (their statements: YteikpeaakmbihaaDoorTotals.lean).
  GIVEN WITH THE SEED: the statements are not yours to turn. If you find one false, say at which input.
  Laid BY PROGRAM, IN A SANDBOX (cutbox-rows.mjs): the forced cells as the released guide's own fill.sh prints them over the translation b2cc9cf148cda870… (all of the seat's roots in one cut). By AI agents, Wed Nov 11 2026. No macro, syntax, notation, axiom, sorry.
-/
import Derived.Test.YteikpeaakmbihaaDoorChecked
import GoSem.Claim
import GoSem.ClaimJoined
import GoSem.ClaimMapViews
import Derived.JoinedTies
import Derived.KernelRfl
namespace Go.Proofs.YteikpeaakmbihaaDoor
/- THE CELL 'sum', in the pinned program and in every row, IS THE sha256 OF THE DUMP (.gsa) THAT YteikpeaakmbihaaDoorProg.lean LOADS. Nothing in Lean hashes anything: it is a label: what it is worth is what the hold of that sum in a sandbox is worth. -/
noncomputable def Tryd.pinned : Pinned := { name := "yteikpeaakmbihaadoor", sum := "b2cc9cf148cda8700cd14edf602f7ed2593e12213519466d06740ce93ca427f9", checked := Tryd.checked }
namespace Rows
def none {H : Type} : Left H := { results := [], args := [] }

/- WHAT THE LISTED PACKAGE-LEVEL VARIABLES READ AS WHEN THE CALL BEGINS. Each datum BY PROGRAM (the guide's laid-datum.mjs) off the statement by which the dump's own 'gosem.cut.vars' lays the variable. In a bare row this is a premise. The card (YteikpeaakmbihaaDoorCards.lean) ties it to the program's text. -/
def laid_syntagma_name_keywords {H : Type} : DataW H := .agg [.lit (.string [102, 117, 110]), .lit (.string [108, 101, 116]), .lit (.string [114, 101, 99]), .lit (.string [105, 110]), .lit (.string [105, 102]), .lit (.string [116, 104, 101, 110]), .lit (.string [101, 108, 115, 101]), .lit (.string [99, 97, 115, 101]), .lit (.string [111, 102]), .lit (.string [101, 110, 100]), .lit (.string [116, 114, 117, 101]), .lit (.string [102, 97, 108, 115, 101]), .lit (.string [99, 104, 101, 99, 107]), .lit (.string [97, 115, 107]), .lit (.string [116, 111, 112]), .lit (.string [98, 111, 116]), .lit (.string [105, 110, 116]), .lit (.string [98, 111, 111, 108]), .lit (.string [115, 116, 114, 105, 110, 103]), .lit (.string [109, 117])]

/-- 'syntagmalaw05.TreeMays': WHATEVER THE INPUT: true; the input reads as it did. -/
def treeMaysSpec : ChangeSpec := { name := "treeMays", fn := fun _ => fun
  | [d1, d2] => { results := [.lit (.bool true)], args := [d1, d2] }
  | _ => none }
def treeMaysRow : OpenClaim := { program := "yteikpeaakmbihaadoor", sum := "b2cc9cf148cda8700cd14edf602f7ed2593e12213519466d06740ce93ca427f9", func := "syntagma/syntagmalaw05.TreeMays", spec := "treeMays", unfollowed := true, recurses := true, named := ["syntagma/name.keywords"], apart := false, laid := [("syntagma/name.keywords", laid_syntagma_name_keywords)] }
def TreeMaysSaid : Prop := treeMaysRow.holds Tryd.pinned (OpenSpec.ofChange treeMaysSpec)

/-- ITS FALSE NEIGHBOUR: 'it returns false'. Refute it at one input. -/
def treeMaysWrong : ChangeSpec := { name := "treeMays", fn := fun _ => fun
  | [d1, d2] => { results := [.lit (.bool false)], args := [d1, d2] }
  | _ => none }
def TreeMaysWrongFalsely : Prop := treeMaysRow.holds Tryd.pinned (OpenSpec.ofChange treeMaysWrong)

/-- 'syntagmalaw05.TreeNorms': WHATEVER THE INPUT: true; the input reads as it did. -/
def treeNormsSpec : ChangeSpec := { name := "treeNorms", fn := fun _ => fun
  | [d1, d2, d3] => { results := [.lit (.bool true)], args := [d1, d2, d3] }
  | _ => none }
def treeNormsRow : OpenClaim := { program := "yteikpeaakmbihaadoor", sum := "b2cc9cf148cda8700cd14edf602f7ed2593e12213519466d06740ce93ca427f9", func := "syntagma/syntagmalaw05.TreeNorms", spec := "treeNorms", unfollowed := true, recurses := true, named := ["syntagma/name.keywords"], apart := false, laid := [("syntagma/name.keywords", laid_syntagma_name_keywords)] }
def TreeNormsSaid : Prop := treeNormsRow.holds Tryd.pinned (OpenSpec.ofChange treeNormsSpec)

/-- ITS FALSE NEIGHBOUR: 'it returns false'. Refute it at one input. -/
def treeNormsWrong : ChangeSpec := { name := "treeNorms", fn := fun _ => fun
  | [d1, d2, d3] => { results := [.lit (.bool false)], args := [d1, d2, d3] }
  | _ => none }
def TreeNormsWrongFalsely : Prop := treeNormsRow.holds Tryd.pinned (OpenSpec.ofChange treeNormsWrong)

/-- 'syntagmalaw05.TreeJoins': WHATEVER THE INPUT: true; the input reads as it did. -/
def treeJoinsSpec : ChangeSpec := { name := "treeJoins", fn := fun _ => fun
  | [d1, d2] => { results := [.lit (.bool true)], args := [d1, d2] }
  | _ => none }
def treeJoinsRow : OpenClaim := { program := "yteikpeaakmbihaadoor", sum := "b2cc9cf148cda8700cd14edf602f7ed2593e12213519466d06740ce93ca427f9", func := "syntagma/syntagmalaw05.TreeJoins", spec := "treeJoins", unfollowed := true, recurses := true, named := ["syntagma/name.keywords"], apart := false, laid := [("syntagma/name.keywords", laid_syntagma_name_keywords)] }
def TreeJoinsSaid : Prop := treeJoinsRow.holds Tryd.pinned (OpenSpec.ofChange treeJoinsSpec)

/-- ITS FALSE NEIGHBOUR: 'it returns false'. Refute it at one input. -/
def treeJoinsWrong : ChangeSpec := { name := "treeJoins", fn := fun _ => fun
  | [d1, d2] => { results := [.lit (.bool false)], args := [d1, d2] }
  | _ => none }
def TreeJoinsWrongFalsely : Prop := treeJoinsRow.holds Tryd.pinned (OpenSpec.ofChange treeJoinsWrong)

/-- 'syntagmalaw05.TreeStays': WHATEVER THE INPUT: true; the input reads as it did. -/
def treeStaysSpec : ChangeSpec := { name := "treeStays", fn := fun _ => fun
  | [d1, d2] => { results := [.lit (.bool true)], args := [d1, d2] }
  | _ => none }
def treeStaysRow : OpenClaim := { program := "yteikpeaakmbihaadoor", sum := "b2cc9cf148cda8700cd14edf602f7ed2593e12213519466d06740ce93ca427f9", func := "syntagma/syntagmalaw05.TreeStays", spec := "treeStays", unfollowed := true, recurses := true, named := ["syntagma/name.keywords"], apart := false, laid := [("syntagma/name.keywords", laid_syntagma_name_keywords)] }
def TreeStaysSaid : Prop := treeStaysRow.holds Tryd.pinned (OpenSpec.ofChange treeStaysSpec)

/-- ITS FALSE NEIGHBOUR: 'it returns false'. Refute it at one input. -/
def treeStaysWrong : ChangeSpec := { name := "treeStays", fn := fun _ => fun
  | [d1, d2] => { results := [.lit (.bool false)], args := [d1, d2] }
  | _ => none }
def TreeStaysWrongFalsely : Prop := treeStaysRow.holds Tryd.pinned (OpenSpec.ofChange treeStaysWrong)

/-- 'syntagmalaw06.ScopeBinders': WHATEVER THE INPUT: true; the input reads as it did. -/
def scopeBindersSpec : ChangeSpec := { name := "scopeBinders", fn := fun _ => fun
  | [d1, d2] => { results := [.lit (.bool true)], args := [d1, d2] }
  | _ => none }
def scopeBindersRow : OpenClaim := { program := "yteikpeaakmbihaadoor", sum := "b2cc9cf148cda8700cd14edf602f7ed2593e12213519466d06740ce93ca427f9", func := "syntagma/syntagmalaw06.ScopeBinders", spec := "scopeBinders", unfollowed := true, recurses := true, named := ["syntagma/name.keywords"], apart := false, laid := [("syntagma/name.keywords", laid_syntagma_name_keywords)] }
def ScopeBindersSaid : Prop := scopeBindersRow.holds Tryd.pinned (OpenSpec.ofChange scopeBindersSpec)

/-- ITS FALSE NEIGHBOUR: 'it returns false'. Refute it at one input. -/
def scopeBindersWrong : ChangeSpec := { name := "scopeBinders", fn := fun _ => fun
  | [d1, d2] => { results := [.lit (.bool false)], args := [d1, d2] }
  | _ => none }
def ScopeBindersWrongFalsely : Prop := scopeBindersRow.holds Tryd.pinned (OpenSpec.ofChange scopeBindersWrong)

/-- 'syntagmalaw06.ScopeFree': WHATEVER THE INPUT: true; the input reads as it did. -/
def scopeFreeSpec : ChangeSpec := { name := "scopeFree", fn := fun _ => fun
  | [d] => { results := [.lit (.bool true)], args := [d] }
  | _ => none }
def scopeFreeRow : OpenClaim := { program := "yteikpeaakmbihaadoor", sum := "b2cc9cf148cda8700cd14edf602f7ed2593e12213519466d06740ce93ca427f9", func := "syntagma/syntagmalaw06.ScopeFree", spec := "scopeFree", unfollowed := true, recurses := true, named := ["syntagma/name.keywords"], apart := false, laid := [("syntagma/name.keywords", laid_syntagma_name_keywords)] }
def ScopeFreeSaid : Prop := scopeFreeRow.holds Tryd.pinned (OpenSpec.ofChange scopeFreeSpec)

/-- ITS FALSE NEIGHBOUR: 'it returns false'. Refute it at one input. -/
def scopeFreeWrong : ChangeSpec := { name := "scopeFree", fn := fun _ => fun
  | [d] => { results := [.lit (.bool false)], args := [d] }
  | _ => none }
def ScopeFreeWrongFalsely : Prop := scopeFreeRow.holds Tryd.pinned (OpenSpec.ofChange scopeFreeWrong)

/-- 'syntagmalaw06.ScopeSame': WHATEVER THE INPUT: true; the input reads as it did. -/
def scopeSameSpec : ChangeSpec := { name := "scopeSame", fn := fun _ => fun
  | [d1, d2] => { results := [.lit (.bool true)], args := [d1, d2] }
  | _ => none }
def scopeSameRow : OpenClaim := { program := "yteikpeaakmbihaadoor", sum := "b2cc9cf148cda8700cd14edf602f7ed2593e12213519466d06740ce93ca427f9", func := "syntagma/syntagmalaw06.ScopeSame", spec := "scopeSame", unfollowed := true, recurses := true, named := ["syntagma/name.keywords"], apart := false, laid := [("syntagma/name.keywords", laid_syntagma_name_keywords)] }
def ScopeSameSaid : Prop := scopeSameRow.holds Tryd.pinned (OpenSpec.ofChange scopeSameSpec)

/-- ITS FALSE NEIGHBOUR: 'it returns false'. Refute it at one input. -/
def scopeSameWrong : ChangeSpec := { name := "scopeSame", fn := fun _ => fun
  | [d1, d2] => { results := [.lit (.bool false)], args := [d1, d2] }
  | _ => none }
def ScopeSameWrongFalsely : Prop := scopeSameRow.holds Tryd.pinned (OpenSpec.ofChange scopeSameWrong)

/- THE SECOND FORM. 'bulk': how many values and letters a reading holds, each counted each time it is reached (what is shared counts as often as it is met; a slice's spare places count too). A statement '..UptoSaid' is the law's where the arguments, and the package variables that the reading takes, are together of bulk at most 1048576: NARROWER than '..Said'. Prove '..Said' where nothing that the law and all that it calls make is longer than what came in: it says more and counts as full. Else prove '..UptoSaid'. A law counts once. -/
mutual
def uptoBulk {H : Type} : DataW H → Nat
  | .lit (.string bytes) => bytes.length + 1
  | .lit _ => 1
  | .nil => 1
  | .ptr d => uptoBulk d + 1
  | .slice elems spare => uptoBulkAll elems + uptoBulkAll spare + 1
  | .agg parts => uptoBulkAll parts + 1
  | .iface _ d => uptoBulk d + 1
  | .map entries => uptoBulkEntries entries + 1
  | .held _ => 1
def uptoBulkAll {H : Type} : List (DataW H) → Nat
  | [] => 0
  | d :: r => uptoBulk d + uptoBulkAll r
def uptoBulkEntries {H : Type} : List (Lit × DataW H) → Nat
  | [] => 0
  | x :: r => uptoBulkEntry x + uptoBulkEntries r
def uptoBulkEntry {H : Type} : Lit × DataW H → Nat
  | (.string bytes, d) => bytes.length + uptoBulk d + 1
  | (_, d) => uptoBulk d + 1
 end
def uptoSmall : (H : Type) → List (DataW H) → Bool := fun _ ds => decide (uptoBulkAll ds ≤ 1048576)
def OpenSpec.upto (s : _root_.Go.ChangeSpec) : _root_.Go.OpenSpec := { _root_.Go.OpenSpec.ofChange s with cond := some uptoSmall }

/-- 'syntagmalaw05.TreeMays', WHERE WHAT IT READS IS OF BULK AT MOST 1048576: true; the input reads as it did. -/
def treeMaysUptoRow : OpenClaim := { program := "yteikpeaakmbihaadoor", sum := "b2cc9cf148cda8700cd14edf602f7ed2593e12213519466d06740ce93ca427f9", func := "syntagma/syntagmalaw05.TreeMays", spec := "treeMays", unfollowed := true, recurses := true, named := ["syntagma/name.keywords"], apart := false, laid := [("syntagma/name.keywords", laid_syntagma_name_keywords)], narrowed := true }
def TreeMaysUptoSaid : Prop := treeMaysUptoRow.holds Tryd.pinned (OpenSpec.upto treeMaysSpec)

/-- 'syntagmalaw05.TreeNorms', WHERE WHAT IT READS IS OF BULK AT MOST 1048576: true; the input reads as it did. -/
def treeNormsUptoRow : OpenClaim := { program := "yteikpeaakmbihaadoor", sum := "b2cc9cf148cda8700cd14edf602f7ed2593e12213519466d06740ce93ca427f9", func := "syntagma/syntagmalaw05.TreeNorms", spec := "treeNorms", unfollowed := true, recurses := true, named := ["syntagma/name.keywords"], apart := false, laid := [("syntagma/name.keywords", laid_syntagma_name_keywords)], narrowed := true }
def TreeNormsUptoSaid : Prop := treeNormsUptoRow.holds Tryd.pinned (OpenSpec.upto treeNormsSpec)

/-- 'syntagmalaw05.TreeJoins', WHERE WHAT IT READS IS OF BULK AT MOST 1048576: true; the input reads as it did. -/
def treeJoinsUptoRow : OpenClaim := { program := "yteikpeaakmbihaadoor", sum := "b2cc9cf148cda8700cd14edf602f7ed2593e12213519466d06740ce93ca427f9", func := "syntagma/syntagmalaw05.TreeJoins", spec := "treeJoins", unfollowed := true, recurses := true, named := ["syntagma/name.keywords"], apart := false, laid := [("syntagma/name.keywords", laid_syntagma_name_keywords)], narrowed := true }
def TreeJoinsUptoSaid : Prop := treeJoinsUptoRow.holds Tryd.pinned (OpenSpec.upto treeJoinsSpec)

/-- 'syntagmalaw05.TreeStays', WHERE WHAT IT READS IS OF BULK AT MOST 1048576: true; the input reads as it did. -/
def treeStaysUptoRow : OpenClaim := { program := "yteikpeaakmbihaadoor", sum := "b2cc9cf148cda8700cd14edf602f7ed2593e12213519466d06740ce93ca427f9", func := "syntagma/syntagmalaw05.TreeStays", spec := "treeStays", unfollowed := true, recurses := true, named := ["syntagma/name.keywords"], apart := false, laid := [("syntagma/name.keywords", laid_syntagma_name_keywords)], narrowed := true }
def TreeStaysUptoSaid : Prop := treeStaysUptoRow.holds Tryd.pinned (OpenSpec.upto treeStaysSpec)

/-- 'syntagmalaw06.ScopeBinders', WHERE WHAT IT READS IS OF BULK AT MOST 1048576: true; the input reads as it did. -/
def scopeBindersUptoRow : OpenClaim := { program := "yteikpeaakmbihaadoor", sum := "b2cc9cf148cda8700cd14edf602f7ed2593e12213519466d06740ce93ca427f9", func := "syntagma/syntagmalaw06.ScopeBinders", spec := "scopeBinders", unfollowed := true, recurses := true, named := ["syntagma/name.keywords"], apart := false, laid := [("syntagma/name.keywords", laid_syntagma_name_keywords)], narrowed := true }
def ScopeBindersUptoSaid : Prop := scopeBindersUptoRow.holds Tryd.pinned (OpenSpec.upto scopeBindersSpec)

/-- 'syntagmalaw06.ScopeFree', WHERE WHAT IT READS IS OF BULK AT MOST 1048576: true; the input reads as it did. -/
def scopeFreeUptoRow : OpenClaim := { program := "yteikpeaakmbihaadoor", sum := "b2cc9cf148cda8700cd14edf602f7ed2593e12213519466d06740ce93ca427f9", func := "syntagma/syntagmalaw06.ScopeFree", spec := "scopeFree", unfollowed := true, recurses := true, named := ["syntagma/name.keywords"], apart := false, laid := [("syntagma/name.keywords", laid_syntagma_name_keywords)], narrowed := true }
def ScopeFreeUptoSaid : Prop := scopeFreeUptoRow.holds Tryd.pinned (OpenSpec.upto scopeFreeSpec)

/-- 'syntagmalaw06.ScopeSame', WHERE WHAT IT READS IS OF BULK AT MOST 1048576: true; the input reads as it did. -/
def scopeSameUptoRow : OpenClaim := { program := "yteikpeaakmbihaadoor", sum := "b2cc9cf148cda8700cd14edf602f7ed2593e12213519466d06740ce93ca427f9", func := "syntagma/syntagmalaw06.ScopeSame", spec := "scopeSame", unfollowed := true, recurses := true, named := ["syntagma/name.keywords"], apart := false, laid := [("syntagma/name.keywords", laid_syntagma_name_keywords)], narrowed := true }
def ScopeSameUptoSaid : Prop := scopeSameUptoRow.holds Tryd.pinned (OpenSpec.upto scopeSameSpec)

end Rows
end Go.Proofs.YteikpeaakmbihaaDoor
