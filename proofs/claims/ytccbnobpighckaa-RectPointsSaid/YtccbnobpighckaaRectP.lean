/- The contracts of the program rect, together. -/
import Derived.Test.YtccbnobpighckaaRectJ
import Derived.Test.YtccbnobpighckaaRectK
import Derived.Test.YtccbnobpighckaaSpanK
import Derived.Test.YtccbnobpighckaaRectPE
import Derived.Test.YtccbnobpighckaaRectPH
namespace Go.Proofs.Ytccbnobpighckaa.Rect
#print axioms rect_Rest
#print axioms rect_Disjoint
end Go.Proofs.Ytccbnobpighckaa.Rect
