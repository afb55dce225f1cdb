/-
  Plain facts about sorted lists of integers as sets, without any program: insertion, the set of a list, merging.
-/
import Derived.Lib.SlicesCompact
namespace Go.Proofs.YtnckpjcfgeajbaaDoor

/-- n put before the first element that is not smaller. -/
def ins (n : Int) (l : List Int) : List Int := l.takeWhile (· < n) ++ n :: l.dropWhile (· < n)
/-- One element more. -/
def addL (o : List Int) (x : Int) : List Int := if x ∈ o then o else ins x o
/-- The set of a list. -/
def mk (l : List Int) : List Int := l.foldl addL []
end Go.Proofs.YtnckpjcfgeajbaaDoor
