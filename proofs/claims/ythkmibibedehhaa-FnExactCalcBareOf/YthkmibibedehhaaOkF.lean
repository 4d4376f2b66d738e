/-
  What the program answers of one statement of each kind, but for those within it.
-/
import Derived.Test.YthkmibibedehhaaOkE
namespace Go.Proofs.Ythkmibibedehhaa
open Go.RowKit Go.Shelf
set_option linter.unusedSimpArgs false
set_option linter.unusedVariables false
attribute [local go_sem] Oper.semAt_some
end Go.Proofs.Ythkmibibedehhaa
