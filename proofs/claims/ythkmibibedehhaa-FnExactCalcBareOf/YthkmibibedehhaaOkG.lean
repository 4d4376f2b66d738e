/-
  A statement as one of its kind, and what the program answers of it, but for those within it.
-/
import Derived.Test.YthkmibibedehhaaOkF
namespace Go.Proofs.Ythkmibibedehhaa
open Go.RowKit Go.Shelf
set_option linter.unusedSimpArgs false
set_option linter.unusedVariables false
attribute [local go_sem] Oper.semAt_some

def SX.fitB (s : SX) : Bool := if s.kind = 1 then (nameB s.name && (s.onlyE && s.noL)) else if s.kind = 2 then (nameB s.name && (s.e.okI && (s.f.okI && s.noL))) else if s.kind = 3 then (s.name.toList.isEmpty && s.onlyE) else if s.kind = 4 then (s.name.toList.isEmpty && (s.onlyE && decide (s.lb.length = 0))) else if s.kind = 5 then s.onlyN else if s.kind = 6 then s.onlyN else if s.kind = 7 then (nameB s.name && (s.onlyE && s.noL)) else if s.kind = 8 then (nameB s.name && ((s.e.kind == 2) && (s.onlyE && s.noL))) else if s.kind = 9 then (s.name.toList.isEmpty && (s.onlyE && s.noL)) else if s.kind = 10 then (s.name.toList.isEmpty && (s.onlyE && s.noL)) else false
end Go.Proofs.Ythkmibibedehhaa
