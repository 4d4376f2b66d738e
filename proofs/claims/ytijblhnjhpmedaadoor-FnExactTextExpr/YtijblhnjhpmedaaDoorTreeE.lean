/-
  What the program's functions on expressions answer: an expression is ok just if it has at most 160 parts, none deeper than 6, each of which has what its kind has.
-/
import Derived.Test.YtijblhnjhpmedaaDoorTreeS
namespace Go.Proofs.YtijblhnjhpmedaaDoor
open Go.RowKit Go.Shelf
set_option linter.unusedSimpArgs false
set_option linter.unusedVariables false
attribute [local go_sem] Oper.semAt_some

end Go.Proofs.YtijblhnjhpmedaaDoor
