/-
  What the program answers of one statement, but for those within it.
-/
import Derived.Test.YthkmibibedehhaaOkD
import Derived.Test.YthkmibibedehhaaTreeG
namespace Go.Proofs.Ythkmibibedehhaa
open Go.RowKit Go.Shelf
set_option linter.unusedSimpArgs false
set_option linter.unusedVariables false
attribute [local go_sem] Oper.semAt_some

def noneE (t : XT) : Bool := (t.kind == 0) && ((t.num == 0) && (t.name.toList.isEmpty && decide (t.kids.length = 0)))
def SX.onlyE (s : SX) : Bool := s.e.okI && noneE s.f
def SX.noL (s : SX) : Bool := decide (s.la.length = 0) && decide (s.lb.length = 0)
def SX.onlyN (s : SX) : Bool := nameB s.name && (noneE s.e && (noneE s.f && s.noL))
end Go.Proofs.Ythkmibibedehhaa
