/- Where leaves begin and end. -/
import Derived.Test.YtjnclchbklehgaaTreeSmall
namespace Go.Proofs.Ytjnclchbklehgaa
open Go.RowKit TreeMath

/-- where the first leaf begins, where the last one ends, whether there is one -/
def spf (l : List Tr) : Int := (l.head?.map (·.a)).getD 0
def spt (l : List Tr) : Int := (l.getLast?.map fun x => wrap64 (x.a + x.t.size)).getD 0
def spo (l : List Tr) : Bool := !l.isEmpty

end Go.Proofs.Ytjnclchbklehgaa
